/-
  Package taximeterref09: Without, With: lists of files that are made anew.
-/
import Derived.Test.YtjdjidlopmanbaaFind9
import Derived.Maps.AppendAt
import Derived.BigQuiet
namespace Go.Proofs.Ytjdjidlopmanbaa
open Go.RowKit
set_option linter.unusedVariables false

/-- append of structs onto a row of the call's own. -/
theorem wp_appN {P : Program} (w : World) {ops : Array Oper} {rest : List Oper} {o : Oper} {a : Act} {Q : Exit → Act → World → Prop} (hgd : o.guard = none) (s x : Operand) (t : TypeId)
    (ho : o.op = .call { callee := .builtin .append, args := #[s, x], argTypes := #[t, t] })
    (base : Nat) (e : TypeId) {i : TypeInfo} {z : Value} {size bytes : Nat} (ht : P.underlying t = some (.slice e)) (hi : P.info? e = some i) (hz : i.zero = some z) (hsize : i.size = size) (hby : i.bytes = bytes) (hzs : z.cells.size = size) (hsz : 0 < size)
    (v : Value) (n : Nat) (xs : List Value) (hs : a.eval s = v) (hown : w.ownsRow base e size v n xs)
    (ad : Addr) (m c : Nat) (news : List Value) (hx : a.eval x = .slice (some ad) m c) (hl : news.length = m * size) (hnews : ∀ j u, news[j]? = some u → w.cell? (ad.add j) = some u) (h1 : ∀ u ∈ news, u.oneCell' = true)
    (h63 : n + m ≤ maxLen) (hbytes : (n + m) * bytes ≤ 140737488355328) (hbase : base ≤ w.heap.size)
    (h : ∀ v' w', w'.ownsRow base e size v' (n + m) (xs ++ news) → w.grownBy w' v.ownBlock → (v'.ownBlock = v.ownBlock ∨ v'.ownBlock = some w.heap.size) → wpList P ops Q rest (a.put o.dst v') w') : wpList P ops Q (o :: rest) a w := by
  refine wpList_step fun _ hK => ?_
  rw [show Region.wanted o (yielded ops a.tmps) = true by simp [Region.wanted, hgd], if_pos rfl]
  obtain ⟨v', w', hrun, h2, h3, _, h4⟩ := run_append_own_at (P := P) w base t o.type e i z size bytes ht hi hz hsize hby hzs hsz v n xs hown ad m c news hl hnews h1 h63 hbytes hbase
  unfold Oper.wp execOp
  simp only [ho, resolve, invoke, builtin, Sem.run_bind, Sem.run_pure, Result.andThen_ok, List.map_toArray, List.map_cons, List.map_nil, hs, hx, hrun]
  exact hK _ _ (h v' w' h2 h3 h4)
theorem cells_newR (w : World) (l : List Value) (t : TypeId) (j : Nat) (u : Value) (h : l[j]? = some u) : (w.alloc (.cells l.toArray t)).cell? ((⟨w.heap.size, 0, none⟩ : Addr).add j) = some u := by
  have e : ((⟨w.heap.size, 0, none⟩ : Addr).add j) = ⟨w.heap.size, j, none⟩ := by unfold Addr.add; split <;> simp_all
  rw [e, cell_of_row _ _ _ _ _ (0, 0) (heap_alloc_new w (.cells l.toArray t))]
  simpa using h
theorem cells_flatR : ∀ (l : List Fil) (i : Nat) (h : i < l.length) (j : Nat) (v : Value), l[i].cells[j]? = some v → (l.flatMap Fil.cells)[i * 3 + j]? = some v
  | f :: r, 0, _, j, v, e => by
    have e' : f.cells[j]? = some v := e
    have hj : j < f.cells.length := (List.getElem?_eq_some_iff.1 e').1
    rw [List.flatMap_cons, Nat.zero_mul, Nat.zero_add, List.getElem?_append_left hj, e']
  | f :: r, i + 1, h, j, v, e => by
    have ih := cells_flatR r i (by simpa using h) j v (by simpa using e)
    have hl : f.cells.length = 3 := rfl
    rw [List.flatMap_cons, List.getElem?_append_right (by rw [hl]; omega), hl, ← ih]
    congr 1
    omega
theorem cells_one (f : Fil) : ∀ u ∈ f.cells, u.oneCell' = true := fun u hu => by
  unfold Fil.cells at hu
  simp only [List.mem_cons, List.not_mem_nil, or_false] at hu
  rcases hu with rfl | rfl | rfl <;> rfl
def zfileR : Value := .agg #[.string ⟨#[]⟩, .slice none 0 0, .int .i64 0]
theorem zfileR_info : ∃ i, Try.prog.info? 50 = some i ∧ i.zero = some zfileR ∧ i.size = 3 ∧ i.bytes = 48 := by
  obtain ⟨i, hi, hz, h3, h4⟩ := info_parts (P := Try.prog) (e := 50) (z := zfileR) (size := 3) (bytes := 48) (by kernel_rfl)
  exact ⟨i, hi, hz, h3, h4⟩

theorem FilOk.keepR {w w' : World} {Q Q' : Nat → Prop} {f : Fil} (h : FilOk w Q f) (hb : ∀ b, b < w.heap.size → Q b → w'.heap[b]? = w.heap[b]?) (hs : w.heap.size ≤ w'.heap.size) (hq : ∀ b, b < w.heap.size → Q b → Q' b) : FilOk w' Q' f := by
  refine ⟨h.len, h.cap, h.max, ?_⟩
  rcases h.data with h | ⟨b, o, e, hlt, hq', hc⟩
  · exact .inl h
  · exact .inr ⟨b, o, e, Nat.lt_of_lt_of_le hlt hs, hq b hlt hq', fun j hj => (World.cell?_of_block (hb b hlt hq')).trans (hc j hj)⟩
/-- A slice of these files, in blocks of which Q holds. -/
def FSl (w : World) (Q : Nat → Prop) (v : Value) (l : List Fil) : Prop := ∃ A c, v = .slice A l.length c ∧ IsFiles w Q A l ∧ l.length ≤ c ∧ c ≤ maxLen
/-- Files that have come to a list lv of the call's own (begun at w1). -/
structure FilesQ (w1 wr : World) (Q : Nat → Prop) (lv : Value) (l : List Fil) : Prop where
  row : wr.ownsRow w1.heap.size 50 3 lv l.length (l.flatMap Fil.cells)
  fil : ∀ f ∈ l, FilOk wr (fun b => Q b ∧ lv.ownBlock ≠ some b) f
  below : Below w1.heap.size w1 wr
theorem FilesQ.start (w1 : World) (Q : Nat → Prop) : FilesQ w1 w1 Q (.slice none 0 0) [] := ⟨World.ownsRow_nil _ _ _ _, (fun f hf => by cases hf), Below.refl _ _⟩
theorem FilesQ.drewN {w1 wr : World} {Q : Nat → Prop} {lv : Value} {l : List Fil} (h : FilesQ w1 wr Q lv l) (n : Nat) : FilesQ w1 (wr.drewN n) Q lv l :=
  ⟨h.row, fun f hf => (h.fil f hf).keepR (fun _ _ _ => rfl) (Nat.le_refl _) (fun _ _ hq => hq), below_drewN h.below n⟩
/-- What lies in elder blocks is no part of the list's row. -/
theorem FilesQ.elder {w1 wr : World} {Q : Nat → Prop} {lv : Value} {l : List Fil} (h : FilesQ w1 wr Q lv l) {f : Fil} (hf : FilOk w1 Q f) : FilOk wr (fun b => Q b ∧ lv.ownBlock ≠ some b) f :=
  hf.keepR (fun b hb _ => h.below.block b hb) h.below.size (fun b hb hq => ⟨hq, fun e => by have := (h.row.lt b e).1; omega⟩)
theorem FilesQ.push {w1 wr W6 V : World} {Q : Nat → Prop} {lv v' : Value} {l : List Fil} (h : FilesQ w1 wr Q lv l) (f : Fil) (hf : FilOk W6 (fun b => Q b ∧ lv.ownBlock ≠ some b) f) (h6 : Below wr.heap.size wr W6)
    (hV : V.ownsRow w1.heap.size 50 3 v' (l.length + 1) (l.flatMap Fil.cells ++ f.cells)) (hg : W6.grownBy V lv.ownBlock) (hor : v'.ownBlock = lv.ownBlock ∨ v'.ownBlock = some W6.heap.size) : FilesQ w1 V Q v' (l ++ [f]) := by
  have s2 := h6.size
  have s3 := hg.size
  have s0 := h.below.size
  have hlv : ∀ k, lv.ownBlock = some k → w1.heap.size ≤ k ∧ k < wr.heap.size := h.row.lt
  have hne : ∀ b, b < W6.heap.size → lv.ownBlock ≠ some b → v'.ownBlock ≠ some b := fun b h1 h2 e => by
    rcases hor with h3 | h3
    · exact h2 (h3 ▸ e)
    · have := Option.some.inj (h3.symm.trans e)
      omega
  refine ⟨?_, fun g hg' => ?_, ?_⟩
  · rw [List.length_append, List.flatMap_append]
    simpa using hV
  · rcases List.mem_append.1 hg' with hg1 | hg1
    · exact (h.fil g hg1).keepR (fun b hb hq => (hg.block b (by omega) (fun e => hq.2 e.symm)).trans (h6.block b hb)) (by omega) (fun b hb hq => ⟨hq.1, hne b (by omega) hq.2⟩)
    · obtain rfl : g = f := by simpa using hg1
      exact hf.keepR (fun b hb hq => hg.block b hb (fun e => hq.2 e.symm)) s3 (fun b hb hq => ⟨hq.1, hne b hb hq.2⟩)
  · have hlow : ∀ k, k < w1.heap.size → (some k : Option Nat) ≠ lv.ownBlock := fun k hk e => by
      have := (hlv k e.symm).1
      omega
    exact ⟨hg.os.trans (h6.os.trans h.below.os), hg.tape.trans (h6.tape.trans h.below.tape), hg.output.trans (h6.output.trans h.below.output), by omega,
      fun k hk => (hg.block k (by omega) (hlow k hk)).trans ((h6.block k (by omega)).trans (h.below.block k hk))⟩
theorem FilesQ.done {w1 wr : World} {Q : Nat → Prop} {lv : Value} {l : List Fil} (h : FilesQ w1 wr Q lv l) (hQ : ∀ b, w1.heap.size ≤ b → Q b) : FSl wr Q lv l := by
  have hfil : ∀ f ∈ l, FilOk wr Q f := fun f hf => (h.fil f hf).keepR (fun _ _ _ => rfl) (Nat.le_refl _) (fun _ _ hq => hq.1)
  have hr := h.row
  rcases hr.2 with ⟨h1, h2⟩ | ⟨g, cap, cur, h1, h2, h3, h4, h5, h6, h7⟩
  · exact ⟨none, 0, by rw [h1, h2], ⟨hfil, .inl (List.eq_nil_of_length_eq_zero h2)⟩, by omega, Nat.zero_le _⟩
  · refine ⟨some ⟨g, 0, none⟩, cap, h1, ⟨hfil, .inr ⟨g, 0, rfl, (Array.getElem?_eq_some_iff.1 h3).1, hQ g h2, fun i hi j v hv => ?_⟩⟩, h4, h5⟩
    have := hr.cells (g := g) (by rw [h1]; rfl) (i * 3 + j) v (cells_flatR l i hi j v hv)
    have e : ((⟨g, 0, none⟩ : Addr).add (i * 3 + j)) = ⟨g, 0 + (i * 3 + j), none⟩ := by unfold Addr.add; split <;> simp_all
    rw [e] at this
    exact this

/-- All but those of a name. -/
def woF (nm : List UInt8) (l : List Fil) : List Fil := l.filter fun g => decide (bl g.name ≠ nm)
set_option maxHeartbeats 3200000 in
theorem without_any {w : World} {Q : Nat → Prop} {a : Option Addr} {c : Nat} {l : List Fil} (h : IsFiles w Q a l) (hQ : ∀ b, w.heap.size ≤ b → Q b) (hc : l.length ≤ c) (hm : c ≤ maxLen) (hlen : l.length ≤ 65536) (nm : ByteArray) :
    Calls Try.prog 35 #[.slice a l.length c, .string nm] w fun e w' => ∃ v, e = .returned v ∧ FSl w' Q v (woF (bl nm) l) ∧ Below w.heap.size w w' := by
  have HH := Lib.hid h.2
  have HFL := Lib.hid h.1
  obtain ⟨len, hl⟩ : ∃ len, l.length = len := ⟨_, rfl⟩
  rw [hl] at hc hlen ⊢
  have HL := Lib.hid hl
  obtain ⟨zi, hzi, hzz, hzs, hzb⟩ := zfileR_info
  clear h hl
  go_enter Try.func35, Try.ntmps35
  go_wp2_with fail
  go_loopw [5, 6] (fun lv v wr => ∃ i : Nat, v = .int .i64 (i : Int) ∧ i ≤ len ∧ Hid (FilesQ w wr Q lv (woF (bl nm) (l.take i)))) (fun _ v _ => len - (intOf v).toNat)
  case atStart => exact ⟨0, rfl, Nat.zero_le _, FilesQ.start w Q⟩
  case round =>
    obtain ⟨i, rfl, hil, HI⟩ := hrel
    by_cases hlt : i < len
    · have hll : i < l.length := by rw [HL.out]; exact hlt
      obtain ⟨b, o, rfl, hb, _, hcell⟩ : ∃ b o, a = some ⟨b, o, none⟩ ∧ b < w.heap.size ∧ Q b ∧ ∀ (i : Nat) (h : i < l.length) (j : Nat) v, l[i].cells[j]? = some v → w.cell? ⟨b, o + (i * 3 + j), none⟩ = some v := by
        rcases HH.out with h | h
        · rw [h] at hll; simp at hll
        · exact h
      obtain ⟨g, hg⟩ : ∃ g, l[i] = g := ⟨_, rfl⟩
      have hbl : ∀ p : Addr, p.block < w.heap.size → wr.cell? p = w.cell? p := fun p hp => HI.out.below.cell hp
      have c0 : wr.cell? ⟨b, o + i * 3, none⟩ = some (.string g.name) := by rw [hbl _ hb, ← hg]; exact hcell i hll 0 _ rfl
      have c1 : wr.cell? ⟨b, o + i * 3 + 1, none⟩ = some (.slice g.A g.n g.c) := by rw [hbl _ hb, ← hg, Nat.add_assoc]; exact hcell i hll 1 _ rfl
      have c2 : wr.cell? ⟨b, o + i * 3 + 2, none⟩ = some (.int .i64 (g.sure : Int)) := by rw [hbl _ hb, ← hg, Nat.add_assoc]; exact hcell i hll 2 _ rfl
      have b1 : (i : Int) < (len : Int) := by omega
      have hcmp : (g.name.toList == nm.toList) = decide (bl g.name = bl nm) := by
        rw [bl_toList, bl_toList]
        by_cases h : bl g.name = bl nm
        · rw [decide_eq_true h, h]; simp
        · rw [decide_eq_false h, beq_eq_false_iff_ne]; exact h
      have hw : IntKind.i64.wrap ((i : Int) + 1) = ((i + 1 : Nat) : Int) := by rw [IntKind.wrap_i64]; omega
      have htk : l.take (i + 1) = l.take i ++ [g] := by rw [List.take_succ_eq_append_getElem hll, hg]
      by_cases he : bl g.name = bl nm
      · have HN : Hid (woF (bl nm) (l.take (i + 1)) = woF (bl nm) (l.take i)) := by
          show _ = _
          unfold woF
          rw [htk, List.filter_append]
          simp [he]
        rw [decide_eq_true he] at hcmp
        clear he hcell hll HH htk hbl hg
        go_wp2_with fail
        go_roundw
        case rel => exact ⟨i + 1, by go_num, by omega, by show FilesQ _ _ _ _ _; rw [HN.out]; exact HI.out⟩
        case measure => simp [intOf]; omega
      · have HN : Hid (woF (bl nm) (l.take (i + 1)) = woF (bl nm) (l.take i) ++ [g]) := by
          show _ = _
          unfold woF
          rw [htk, List.filter_append]
          simp [he]
        have HG : Hid (FilOk w Q g) := HFL.out g (by rw [← hg]; exact List.getElem_mem hll)
        have hlw : (woF (bl nm) (l.take i)).length ≤ i := Nat.le_trans (List.length_filter_le _ _) (by simp; omega)
        rw [decide_eq_false he] at hcmp
        have hrow := HI.out.row.alloc (.cells #[.string g.name, .slice g.A g.n g.c, .int .i64 (g.sure : Int)] 50)
        have hcn := cells_newR wr g.cells 50
        have h63 : (woF (bl nm) (l.take i)).length + 1 ≤ maxLen := by unfold maxLen; omega
        have hbytes : ((woF (bl nm) (l.take i)).length + 1) * 48 ≤ 140737488355328 := by omega
        have hsz : w.heap.size ≤ (wr.alloc (.cells #[.string g.name, .slice g.A g.n g.c, .int .i64 (g.sure : Int)] 50)).heap.size := by have := HI.out.below.size; simp; omega
        have HSZ := Lib.hid hsz
        clear he hcell hll HH htk hbl hg hlw
        go_wp2_with (first | (refine wp_appN _ rfl (.tmp 20) (.tmp 25) 28 rfl w.heap.size 50 Try.underlying28 hzi hzz hzs hzb (by rfl) (by decide) _ _ _ rfl hrow ⟨wr.heap.size, 0, none⟩ 1 _ g.cells rfl rfl hcn (cells_one g) h63 hbytes hsz ?_; intro v7 w7 hR7 hG7 hv7))
        have HP := Lib.hid (HI.out.push g ((HI.out.elder HG.out).keepR (w' := wr.alloc (.cells #[.string g.name, .slice g.A g.n g.c, .int .i64 (g.sure : Int)] 50)) (fun b hb _ => Below.heap_alloc wr _ b hb) (by simp) (fun _ _ hq => hq)) ((Below.refl _ wr).alloc (Nat.le_refl _) _) hR7 hG7 hv7)
        clear hR7 hG7 hv7 hrow hcn
        try go_wp2_with fail
        go_roundw
        case rel => exact ⟨i + 1, by go_num, by omega, by show FilesQ _ _ _ _ _; rw [HN.out]; exact HP.out⟩
        case measure => simp [intOf]; omega
    · obtain rfl : i = len := by omega
      have b1 : decide ((i : Int) < (i : Int)) = false := by rw [decide_eq_false_iff_not]; omega
      have HF : Hid (l.take i = l) := by show _ = _; rw [← HL.out, List.take_length]
      clear HH
      go_wp2_with fail
      go_ret
      rw [HF.out] at HI
      exact ⟨_, rfl, HI.out.done hQ, HI.out.below⟩
end Go.Proofs.Ytjdjidlopmanbaa
