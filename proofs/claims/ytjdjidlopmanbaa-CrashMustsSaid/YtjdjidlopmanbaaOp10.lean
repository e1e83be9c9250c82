/-
  Package taximeterref10: work; Large. Package taximeterref10: Call, Step, Calls.
-/
import Derived.Test.YtjdjidlopmanbaaRecs
import Derived.Test.YtjdjidlopmanbaaRef9a
import Derived.Test.YtjdjidlopmanbaaBlk
namespace Go.Proofs.Ytjdjidlopmanbaa
open Go.RowKit
set_option linter.unusedVariables false

/-- A call or nothing, as its cells tell it. -/
structure Opn where
  kind : Int
  name : ByteArray
  to : ByteArray
  A : Option Addr
  n : Nat
  c : Nat
  data : List UInt8
def Opn.cells (s : Opn) : List Value := [.int .i64 s.kind, .string s.name, .string s.to, .slice s.A s.n s.c]
structure OpnOk (w : World) (s : Opn) : Prop where
  kind : (Lit.int .i64 s.kind).wf = true
  name : s.name.size ≤ maxLen
  to : s.to.size ≤ maxLen
  len : s.data.length = s.n
  cap : s.n ≤ s.c
  max : s.c ≤ maxLen
  data : Bs w w.heap.size s.A s.data
/-- This work lies in a slice. -/
def IsOps (w : World) (a : Option Addr) (len cap : Nat) (l : List Opn) : Prop :=
  l.length = len ∧ len ≤ cap ∧ cap ≤ maxLen ∧ (∀ s ∈ l, OpnOk w s) ∧ (l = [] ∨ ∃ b o, a = some ⟨b, o, none⟩ ∧ b < w.heap.size ∧
    ∀ (i : Nat) (h : i < l.length) (j : Nat) v, l[i].cells[j]? = some v → w.cell? ⟨b, o + (i * 4 + j), none⟩ = some v)
theorem ops_of {w : World} {a : Option Addr} {len cap : Nat} (h : IsRecs [isNum .i64, isText, isText, isRowF .u8] w a len cap) : ∃ l, IsOps w a len cap l := by
  obtain ⟨h1, h2, h3⟩ := h
  rcases h3 with h0 | ⟨b, o, rfl, hb, hr⟩
  · exact ⟨[], h0.symm, h1, h2, (by simp), .inl rfl⟩
  · have hrow : ∀ i, i < len → ∃ s : Opn, OpnOk w s ∧ ∀ (j : Nat) v, s.cells[j]? = some v → w.cell? ⟨b, o + (i * 4 + j), none⟩ = some v := by
      intro i hi
      obtain ⟨vs, hl, hp, hc⟩ := hr i hi
      match vs, hl with
      | [v0, v1, v2, v3], _ =>
        obtain ⟨z0, rfl, w0⟩ := hp 0 _ _ rfl rfl
        obtain ⟨s1, rfl, w1⟩ := hp 1 _ _ rfl rfl
        obtain ⟨s2, rfl, w2⟩ := hp 2 _ _ rfl rfl
        obtain ⟨A, n, c, zs, rfl, hrow⟩ := hp 3 _ _ rfl rfl
        obtain ⟨l, hll, hnc, hcm, hbs⟩ := hrow.bs
        exact ⟨⟨z0, s1, s2, A, n, c, l⟩, ⟨w0, w1, w2, hll, hnc, hcm, hbs⟩, hc⟩
    refine ⟨(List.range len).map fun i => if h : i < len then Classical.choose (hrow i h) else ⟨0, ⟨#[]⟩, ⟨#[]⟩, none, 0, 0, []⟩, by simp, h1, h2, ?_, .inr ⟨b, o, rfl, hb, ?_⟩⟩
    · intro s hs
      obtain ⟨i, hi, rfl⟩ := List.mem_map.1 hs
      have hil : i < len := List.mem_range.1 hi
      rw [dif_pos hil]
      exact (Classical.choose_spec (hrow i hil)).1
    · intro i hi j v hv
      have hil : i < len := by simpa using hi
      rw [List.getElem_map, List.getElem_range, dif_pos hil] at hv
      exact (Classical.choose_spec (hrow i hil)).2 j v hv
theorem OpnOk.below {w w' : World} {s : Opn} (h : OpnOk w s) (hb : Below w.heap.size w w') : OpnOk w' s :=
  ⟨h.kind, h.name, h.to, h.len, h.cap, h.max, (h.data.below hb (Nat.le_refl _)).more hb.size⟩
theorem IsOps.below {w w' : World} {a : Option Addr} {len cap : Nat} {l : List Opn} (h : IsOps w a len cap l) (hb : Below w.heap.size w w') : IsOps w' a len cap l := by
  obtain ⟨h1, h2, h3, h4, h5⟩ := h
  refine ⟨h1, h2, h3, fun s hs => (h4 s hs).below hb, ?_⟩
  rcases h5 with h5 | ⟨b, o, e, hlt, hc⟩
  · exact .inl h5
  · exact .inr ⟨b, o, e, Nat.lt_of_lt_of_le hlt hb.size, fun i hi j v hv => (hb.cell hlt).trans (hc i hi j v hv)⟩

/-- Not too large. -/
def smallO (s : Opn) : Bool := decide (s.n ≤ 200) && decide (s.name.size ≤ 100) && decide (s.to.size ≤ 100)
def largeO (l : List Opn) : Bool := (l.take 60).any (fun s => !smallO s) || decide (60 < l.length)
theorem largeO_next {l : List Opn} {i : Nat} (h : i < l.length) (h6 : i < 60) : (l.take 60).drop i = l[i] :: (l.take 60).drop (i + 1) := by
  rw [List.drop_eq_getElem_cons (by simp; omega), List.getElem_take]
theorem largeO_end {l : List Opn} {i : Nat} (h : l.length ≤ i ∨ 60 ≤ i) : (l.take 60).drop i = [] := List.drop_eq_nil_of_le (by simp; omega)
theorem small_of_largeO {l : List Opn} (h : largeO l = false) : l.length ≤ 60 ∧ ∀ s ∈ l, s.n ≤ 200 ∧ s.name.size ≤ 100 ∧ s.to.size ≤ 100 := by
  unfold largeO at h
  rw [Bool.or_eq_false_iff, decide_eq_false_iff_not] at h
  have hl : l.length ≤ 60 := by omega
  refine ⟨hl, fun s hs => ?_⟩
  rw [List.take_of_length_le hl, List.any_eq_false] at h
  have := h.1 s hs
  unfold smallO at this
  simp at this
  omega

set_option maxHeartbeats 1600000 in
theorem largeO_any {w : World} {a : Option Addr} {len cap : Nat} {l : List Opn} (h : IsOps w a len cap l) :
    Calls Try.prog 5 #[.slice a len cap] w fun e w' => e = .returned (.bool (largeO l)) ∧ ∃ n, w' = w.drewN n := by
  obtain ⟨h1, h2, h3, h4, h5⟩ := h
  have HH : Hid (l = [] ∨ ∃ b o, a = some ⟨b, o, none⟩ ∧ b < w.heap.size ∧ ∀ (i : Nat) (h : i < l.length) (j : Nat) v, l[i].cells[j]? = some v → w.cell? ⟨b, o + (i * 4 + j), none⟩ = some v) := h5
  have HL := Lib.hid h1
  unfold maxLen at h3
  clear h1 h4 h5
  go_enter Try.func5, Try.ntmps5
  go_wp2_with fail
  go_loopw [3] (fun v wr => ∃ i : Nat, v = .int .i64 (i : Int) ∧ i ≤ len ∧ i ≤ 60 ∧ (∃ n, wr = w.drewN n) ∧ Hid ((l.take 60).any (fun s => !smallO s) = ((l.take 60).drop i).any (fun s => !smallO s))) (fun v _ => len - (intOf v).toNat)
  case atStart => exact ⟨0, rfl, by omega, by omega, ⟨0, rfl⟩, Lib.hid rfl⟩
  case round =>
    obtain ⟨i, rfl, hil, hi6, ⟨q, rfl⟩, HI⟩ := hrel
    by_cases hlt : i < len
    · by_cases hlt6 : i < 60
      · have hll : i < l.length := by rw [HL.out]; exact hlt
        have hi := HI.out
        rw [largeO_next hll hlt6, List.any_cons] at hi
        obtain ⟨b, o, rfl, hb, hc⟩ : ∃ b o, a = some ⟨b, o, none⟩ ∧ b < w.heap.size ∧ ∀ (i : Nat) (h : i < l.length) (j : Nat) v, l[i].cells[j]? = some v → w.cell? ⟨b, o + (i * 4 + j), none⟩ = some v := by
          rcases HH.out with h | h
          · rw [h] at hll; simp at hll
          · exact h
        have c3 : (w.drewN q).cell? ⟨b, o + i * 4 + 3, none⟩ = some (.slice l[i].A l[i].n l[i].c) := by rw [Nat.add_assoc]; exact hc i hll 3 _ rfl
        have c1 : (w.drewN q).cell? ⟨b, o + i * 4 + 1, none⟩ = some (.string l[i].name) := by rw [Nat.add_assoc]; exact hc i hll 1 _ rfl
        have c2 : (w.drewN q).cell? ⟨b, o + i * 4 + 2, none⟩ = some (.string l[i].to) := by rw [Nat.add_assoc]; exact hc i hll 2 _ rfl
        obtain ⟨s, hs⟩ : ∃ s, l[i] = s := ⟨_, rfl⟩
        rw [hs] at hi c1 c2 c3
        have hsm : smallO s = (decide (s.n ≤ 200) && decide (s.name.size ≤ 100) && decide (s.to.size ≤ 100)) := rfl
        rw [hsm] at hi
        clear HI hs hsm hc
        have b1 : (i : Int) < (len : Int) := by omega
        have b2 : decide ((i : Int) < 60) = true := by rw [decide_eq_true_iff]; omega
        have b3 : (0 : Int) ≤ (i : Int) := by omega
        by_cases t1 : 200 < s.n
        · have g1 : decide ((200 : Int) < (s.n : Int)) = true := by rw [decide_eq_true_iff]; omega
          have HF : Hid (largeO l = true) := by show _ = _; unfold largeO; rw [hi, decide_eq_false (by omega)]; rfl
          clear hi t1 hll
          go_wp2_with fail
          go_ret
          exact ⟨by rw [HF.out]; rfl, _, rfl⟩
        · have g1 : decide ((200 : Int) < (s.n : Int)) = false := by rw [decide_eq_false_iff_not]; omega
          by_cases t2 : 100 < s.name.size
          · have g2 : decide ((100 : Int) < (s.name.size : Int)) = true := by rw [decide_eq_true_iff]; omega
            have HF : Hid (largeO l = true) := by show _ = _; unfold largeO; rw [hi, decide_eq_false (show ¬ s.name.size ≤ 100 by omega)]; simp
            clear hi t1 t2 hll
            go_wp2_with fail
            go_ret
            exact ⟨by rw [HF.out]; rfl, _, rfl⟩
          · have g2 : decide ((100 : Int) < (s.name.size : Int)) = false := by rw [decide_eq_false_iff_not]; omega
            by_cases t3 : 100 < s.to.size
            · have g3 : decide ((100 : Int) < (s.to.size : Int)) = true := by rw [decide_eq_true_iff]; omega
              have HF : Hid (largeO l = true) := by show _ = _; unfold largeO; rw [hi, decide_eq_false (show ¬ s.to.size ≤ 100 by omega)]; simp
              clear hi t1 t2 t3 hll
              go_wp2_with fail
              go_ret
              exact ⟨by rw [HF.out]; rfl, _, rfl⟩
            · have g3 : decide ((100 : Int) < (s.to.size : Int)) = false := by rw [decide_eq_false_iff_not]; omega
              have HN : Hid ((l.take 60).any (fun s => !smallO s) = ((l.take 60).drop (i + 1)).any (fun s => !smallO s)) := by
                show _ = _
                rw [hi, decide_eq_true (show s.n ≤ 200 by omega), decide_eq_true (show s.name.size ≤ 100 by omega), decide_eq_true (show s.to.size ≤ 100 by omega)]
                rfl
              have hw : IntKind.i64.wrap ((i : Int) + 1) = ((i + 1 : Nat) : Int) := by rw [IntKind.wrap_i64]; omega
              clear hi t1 t2 t3 hll
              go_wp2_with fail
              go_roundw
              case rel => exact ⟨i + 1, rfl, by omega, by omega, ⟨_, rfl⟩, HN⟩
              case measure =>
                show len - (((i + 1 : Nat) : Int)).toNat < len - ((i : Int)).toNat
                omega
      · have b1 : (i : Int) < (len : Int) := by omega
        have b2 : decide ((i : Int) < 60) = false := by rw [decide_eq_false_iff_not]; omega
        have hi := HI.out
        rw [largeO_end (.inr (by omega)), List.any_nil] at hi
        have HF : Hid (largeO l = decide (60 < len)) := by show _ = _; unfold largeO; rw [hi, HL.out]; rfl
        have g : decide ((60 : Int) < (len : Int)) = decide (60 < len) := by
          by_cases h : 60 < len
          · rw [decide_eq_true h, decide_eq_true (by omega)]
          · rw [decide_eq_false h, decide_eq_false (by omega)]
        obtain ⟨x, hx⟩ : ∃ x, decide (60 < len) = x := ⟨_, rfl⟩
        rw [hx] at g HF
        clear hi HI hx
        go_wp2_with fail
        go_ret
        exact ⟨by rw [HF.out]; rfl, _, rfl⟩
    · obtain rfl : i = len := by omega
      have b1 : decide ((i : Int) < (i : Int)) = false := by rw [decide_eq_false_iff_not]; omega
      have hi := HI.out
      rw [largeO_end (.inl (by rw [HL.out]; exact Nat.le_refl _)), List.any_nil] at hi
      have HF : Hid (largeO l = decide (60 < i)) := by show _ = _; unfold largeO; rw [hi, HL.out]; rfl
      have g : decide ((60 : Int) < (i : Int)) = decide (60 < i) := by
        by_cases h : 60 < i
        · rw [decide_eq_true h, decide_eq_true (by omega)]
        · rw [decide_eq_false h, decide_eq_false (by omega)]
      obtain ⟨x, hx⟩ : ∃ x, decide (60 < i) = x := ⟨_, rfl⟩
      rw [hx] at g HF
      clear hi HI hx
      go_wp2_with fail
      go_ret
      exact ⟨by rw [HF.out]; rfl, _, rfl⟩
end Go.Proofs.Ytjdjidlopmanbaa

namespace Go.Proofs.Ytjdjidlopmanbaa
open Go.RowKit
set_option linter.unusedVariables false

def isCallO (o : Opn) : Bool := decide (1 ≤ o.kind) && decide (o.kind ≤ 4)
set_option maxRecDepth 100000 in
theorem rcall_any (o : Opn) (w : World) : Calls Try.prog 28 #[.agg #[.int .i64 o.kind, .string o.name, .string o.to, .slice o.A o.n o.c]] w fun e w' => e = .returned (.bool (isCallO o)) ∧ Below w.heap.size w w' := by
  have hb : ∀ x, Below w.heap.size w (w.alloc x) := fun x => (Below.refl _ w).alloc (Nat.le_refl _) x
  have HB := Lib.hid hb
  obtain ⟨k, hk⟩ : ∃ k, o.kind = k := ⟨_, rfl⟩
  have hF : isCallO o = (decide (1 ≤ k) && decide (k ≤ 4)) := by unfold isCallO; rw [hk]
  rw [hk]
  have HF := Lib.hid hF
  clear hb hF hk
  by_cases h1 : 1 ≤ k
  · by_cases h4 : k ≤ 4
    · have g1 : decide (k ≥ 1) = true := by rw [decide_eq_true_iff]; omega
      have g2 : decide (k ≤ 4) = true := decide_eq_true h4
      have HR : Hid (isCallO o = true) := by show _ = _; rw [HF.out]; simp [h1, h4]
      go_enter Try.func28, Try.ntmps28
      go_wp2_with fail
      go_ret
      exact ⟨by rw [HR.out]; rfl, HB.out _⟩
    · have g1 : decide (k ≥ 1) = true := by rw [decide_eq_true_iff]; omega
      have g2 : decide (k ≤ 4) = false := decide_eq_false h4
      have HR : Hid (isCallO o = false) := by show _ = _; rw [HF.out]; simp [h4]
      go_enter Try.func28, Try.ntmps28
      go_wp2_with fail
      go_ret
      exact ⟨by rw [HR.out]; rfl, HB.out _⟩
  · have g1 : decide (k ≥ 1) = false := by rw [decide_eq_false_iff_not]; omega
    have HR : Hid (isCallO o = false) := by show _ = _; rw [HF.out]; simp [h1]
    go_enter Try.func28, Try.ntmps28
    go_wp2_with fail
    go_ret
    exact ⟨by rw [HR.out]; rfl, HB.out _⟩

/-- A struct in a cell of the call's own. -/
theorem result_one {P : Program} {ty : TypeId} {fs : Array Field} {n : Nat} (hu : P.underlying ty = some (.struct fs)) (hs : (P.info? ty).map (·.size) = some n) {fn : Func} {p : Tmp} (h : fn.results = #[.cell p ty]) (tmps : Array Value)
    {w : World} {g : Nat} {t' : TypeId} {vs : List Value} (hg : Bk w g t' vs) (hn : vs.length = n) (hp : tmps.getD p undef = .pointer (some ⟨g, 0, none⟩)) :
    (results fn tmps).run P w = .ok (.agg vs.toArray) w := by
  exact results_cell_row h tmps w g t' vs.toArray (0, 0) _ hp hg hu rfl (by rw [hs]; simp [hn])

set_option maxRecDepth 100000 in
set_option maxHeartbeats 1600000 in
theorem rstep_any (o : Opn) (w : World) : Calls Try.prog 15 #[.agg #[.int .i64 o.kind, .string o.name, .string o.to, .slice o.A o.n o.c]] w fun e w' =>
    e = .returned (.agg #[.int .i64 o.kind, .string o.name, .string o.to, .slice o.A o.n o.c, .int .u64 0, .int .i64 0]) ∧ Below w.heap.size w w' := by
  obtain ⟨wb, hwb⟩ : ∃ wb, w.alloc (.cells #[.int .i64 o.kind, .string o.name, .string o.to, .slice o.A o.n o.c] 46) = wb := ⟨_, rfl⟩
  have hB : Bk wb w.heap.size 46 [.int .i64 o.kind, .string o.name, .string o.to, .slice o.A o.n o.c] := by rw [← hwb]; exact Bk.new w _ _
  have hb : Below w.heap.size w wb := by rw [← hwb]; exact (Below.refl _ w).alloc (Nat.le_refl _) _
  obtain ⟨wc, hwc⟩ : ∃ wc, wb.alloc (.cells #[.int .i64 0, .string ⟨#[]⟩, .string ⟨#[]⟩, .slice none 0 0, .int .u64 0, .int .i64 0] 43) = wc := ⟨_, rfl⟩
  have hC : Bk wc wb.heap.size 43 [.int .i64 0, .string ⟨#[]⟩, .string ⟨#[]⟩, .slice none 0 0, .int .u64 0, .int .i64 0] := by rw [← hwc]; exact Bk.new wb _ _
  have hB2 : Bk wc w.heap.size 46 [.int .i64 o.kind, .string o.name, .string o.to, .slice o.A o.n o.c] := by rw [← hwc]; exact hB.alloc _
  have hbc : Below w.heap.size w wc := by rw [← hwc]; exact hb.alloc hb.size _
  have c0 : wc.cell? ⟨w.heap.size, 0, none⟩ = some (.int .i64 o.kind) := hB2.cellAt 0 (show 0 < 4 by decide)
  have c1 : wc.cell? ⟨w.heap.size, 1, none⟩ = some (.string o.name) := hB2.cellAt 1 (show 1 < 4 by decide)
  have c2 : wc.cell? ⟨w.heap.size, 2, none⟩ = some (.string o.to) := hB2.cellAt 2 (show 2 < 4 by decide)
  have c3 : wc.cell? ⟨w.heap.size, 3, none⟩ = some (.slice o.A o.n o.c) := hB2.cellAt 3 (show 3 < 4 by decide)
  have HC := Lib.hid hC
  have HBC := Lib.hid hbc
  have HBS := Lib.hid hb.size
  clear hB hb hC hB2 hbc
  go_enter Try.func15, Try.ntmps15
  go_wp2_with (first | (refine wpList_store_row (by rfl) 43 (.tmp 2) (.tmp 11) (by rfl) wb.heap.size #[.int .i64 o.kind, .string o.name, .string o.to, .slice o.A o.n o.c, .int .u64 0, .int .i64 0] (by rfl) (by rfl) 43 #[.int .i64 0, .string ⟨#[]⟩, .string ⟨#[]⟩, .slice none 0 0, .int .u64 0, .int .i64 0] HC.out (by kernel_rfl) rfl (by simp [Value.oneCell']) ?_))
  exact bodyPost_ret (result_one (n := 6) Try.underlying43 (by kernel_rfl) (by rfl) _ (HC.out.row #[.int .i64 o.kind, .string o.name, .string o.to, .slice o.A o.n o.c, .int .u64 0, .int .i64 0]) rfl rfl) rfl ⟨rfl, below_row HBC.out HBS.out _⟩

/-! ### Calls: a list of calls that is made anew -/
theorem cells_flatO : ∀ (l : List Opn) (i : Nat) (h : i < l.length) (j : Nat) (v : Value), l[i].cells[j]? = some v → (l.flatMap Opn.cells)[i * 4 + j]? = some v
  | f :: r, 0, _, j, v, e => by
    have e' : f.cells[j]? = some v := e
    have hj : j < f.cells.length := (List.getElem?_eq_some_iff.1 e').1
    rw [List.flatMap_cons, Nat.zero_mul, Nat.zero_add, List.getElem?_append_left hj, e']
  | f :: r, i + 1, h, j, v, e => by
    have ih := cells_flatO r i (by simpa using h) j v (by simpa using e)
    have hl : f.cells.length = 4 := rfl
    rw [List.flatMap_cons, List.getElem?_append_right (by rw [hl]; omega), hl, ← ih]
    congr 1
    omega
theorem cells_oneO (f : Opn) : ∀ u ∈ f.cells, u.oneCell' = true := fun u hu => by
  unfold Opn.cells at hu
  simp only [List.mem_cons, List.not_mem_nil, or_false] at hu
  rcases hu with rfl | rfl | rfl | rfl <;> rfl
def zop : Value := .agg #[.int .i64 0, .string ⟨#[]⟩, .string ⟨#[]⟩, .slice none 0 0]
theorem zop_info : ∃ i, Try.prog.info? 46 = some i ∧ i.zero = some zop ∧ i.size = 4 ∧ i.bytes = 64 := by
  obtain ⟨i, hi, hz, h3, h4⟩ := info_parts (P := Try.prog) (e := 46) (z := zop) (size := 4) (bytes := 64) (by kernel_rfl)
  exact ⟨i, hi, hz, h3, h4⟩
def callsO (l : List Opn) : List Opn := l.filter isCallO
theorem callsO_snoc (l : List Opn) (o : Opn) : callsO (l ++ [o]) = callsO l ++ (if isCallO o then [o] else []) := by
  unfold callsO
  rw [List.filter_append]
  cases h : isCallO o <;> simp [h]
theorem ownsRow_below {w w' : World} {base : Nat} {e : TypeId} {size : Nat} {v : Value} {n : Nat} {xs : List Value} (h : w.ownsRow base e size v n xs) (hb : Below w.heap.size w w') : w'.ownsRow base e size v n xs :=
  h.kept (row := none) ⟨hb.os, hb.tape, hb.output, hb.size, fun k hk _ => hb.block k hk⟩ (by cases hv : v.ownBlock <;> simp)

set_option maxRecDepth 100000 in
set_option maxHeartbeats 3200000 in
theorem rcalls_any {w : World} {a : Option Addr} {len cap : Nat} {l : List Opn} (h : IsOps w a len cap l) (hlen : len ≤ 65536) :
    Calls Try.prog 13 #[.slice a len cap] w fun e w' => ∃ A c, e = .returned (.slice A (callsO l).length c) ∧ IsOps w' A (callsO l).length c (callsO l) ∧ Below w.heap.size w w' := by
  obtain ⟨hll0, hlc, hcm, hok, hsl⟩ := h
  have HOK := Lib.hid hok
  have HH := Lib.hid hsl
  have HL := Lib.hid hll0
  obtain ⟨zi, hzi, hzz, hzs, hzb⟩ := zop_info
  clear hok hsl hll0
  go_enter Try.func13, Try.ntmps13
  go_wp2_with fail
  go_loopw [3, 4] (fun lv v wr => ∃ i : Nat, v = .int .i64 (i : Int) ∧ i ≤ len ∧ Hid (wr.ownsRow w.heap.size 46 4 lv (callsO (l.take i)).length ((callsO (l.take i)).flatMap Opn.cells) ∧ Below w.heap.size w wr)) (fun _ v _ => len - (intOf v).toNat)
  case atStart => exact ⟨0, rfl, Nat.zero_le _, World.ownsRow_nil _ _ _ _, Below.refl _ _⟩
  case round =>
    obtain ⟨i, rfl, hil, HI⟩ := hrel
    by_cases hlt : i < len
    · have hll : i < l.length := by rw [HL.out]; exact hlt
      obtain ⟨b, o, rfl, hb, hcell⟩ : ∃ b o, a = some ⟨b, o, none⟩ ∧ b < w.heap.size ∧ ∀ (i : Nat) (h : i < l.length) (j : Nat) v, l[i].cells[j]? = some v → w.cell? ⟨b, o + (i * 4 + j), none⟩ = some v := by
        rcases HH.out with h | h
        · rw [h] at hll; simp at hll
        · exact h
      obtain ⟨g, hg⟩ : ∃ g, l[i] = g := ⟨_, rfl⟩
      have HZ0 : Hid (∀ V : World, Below w.heap.size w V → V.cell? ⟨b, o + i * 4, none⟩ = some (.int .i64 g.kind)) := fun V hV => by rw [hV.cell hb, ← hg]; exact hcell i hll 0 _ rfl
      have HZ1 : Hid (∀ V : World, Below w.heap.size w V → V.cell? ⟨b, o + i * 4 + 1, none⟩ = some (.string g.name)) := fun V hV => by rw [hV.cell hb, ← hg, Nat.add_assoc]; exact hcell i hll 1 _ rfl
      have HZ2 : Hid (∀ V : World, Below w.heap.size w V → V.cell? ⟨b, o + i * 4 + 2, none⟩ = some (.string g.to)) := fun V hV => by rw [hV.cell hb, ← hg, Nat.add_assoc]; exact hcell i hll 2 _ rfl
      have HZ3 : Hid (∀ V : World, Below w.heap.size w V → V.cell? ⟨b, o + i * 4 + 3, none⟩ = some (.slice g.A g.n g.c)) := fun V hV => by rw [hV.cell hb, ← hg, Nat.add_assoc]; exact hcell i hll 3 _ rfl
      have c0 := HZ0.out wr HI.out.2
      have c1 := HZ1.out wr HI.out.2
      have c2 := HZ2.out wr HI.out.2
      have c3 := HZ3.out wr HI.out.2
      have b1 : (i : Int) < (len : Int) := by omega
      have hw : IntKind.i64.wrap ((i : Int) + 1) = ((i + 1 : Nat) : Int) := by rw [IntKind.wrap_i64]; omega
      have htk : callsO (l.take (i + 1)) = callsO (l.take i) ++ (if isCallO g then [g] else []) := by rw [List.take_succ_eq_append_getElem hll, callsO_snoc, hg]
      have hlw : (callsO (l.take i)).length ≤ i := Nat.le_trans (List.length_filter_le _ _) (by simp; omega)
      have HTK := Lib.hid htk
      have HLW := Lib.hid hlw
      clear hcell hll HH hg htk hlw
      go_wp2_with fail
      refine (rcall_any g wr).mono ?_
      rintro e w1 ⟨rfl, hb1⟩
      have hrow1 := ownsRow_below HI.out.1 hb1
      have hbw1 : Below w.heap.size w w1 := HI.out.2.trans (hb1.mono HI.out.2.size)
      cases hc : isCallO g with
      | false =>
        have HN : Hid (callsO (l.take (i + 1)) = callsO (l.take i)) := by show _ = _; rw [HTK.out, hc]; simp
        have HR : Hid (w1.ownsRow w.heap.size 46 4 u3 (callsO (l.take i)).length ((callsO (l.take i)).flatMap Opn.cells) ∧ Below w.heap.size w w1) := ⟨hrow1, hbw1⟩
        clear hrow1 hbw1 hb1 hc c0 c1 c2 c3
        go_wp2_with fail
        go_roundw
        case rel => exact ⟨i + 1, by go_num, by omega, by show _ ∧ _; rw [HN.out]; exact HR.out⟩
        case measure => simp [intOf]; omega
      | true =>
        have HN : Hid (callsO (l.take (i + 1)) = callsO (l.take i) ++ [g]) := by show _ = _; rw [HTK.out, hc]; simp
        clear c0 c1 c2 c3
        have c0 := HZ0.out w1 hbw1
        have c1 := HZ1.out w1 hbw1
        have c2 := HZ2.out w1 hbw1
        have c3 := HZ3.out w1 hbw1
        have hrow2 := hrow1.alloc (.cells #[.int .i64 g.kind, .string g.name, .string g.to, .slice g.A g.n g.c] 46)
        have hcn := cells_newR w1 g.cells 46
        have h63 : (callsO (l.take i)).length + 1 ≤ maxLen := by have := HLW.out; unfold maxLen; omega
        have hbytes : ((callsO (l.take i)).length + 1) * 64 ≤ 140737488355328 := by have := HLW.out; omega
        have hsz : w.heap.size ≤ (w1.alloc (.cells #[.int .i64 g.kind, .string g.name, .string g.to, .slice g.A g.n g.c] 46)).heap.size := by have := hbw1.size; simp; omega
        have HBW := Lib.hid hbw1
        have HROW := Lib.hid hrow1
        clear hrow1 hbw1 hb1 hc
        go_wp2_with (first | (refine wp_appN _ rfl (.tmp 16) (.tmp 21) 23 rfl w.heap.size 46 Try.underlying23 hzi hzz hzs hzb (by rfl) (by decide) u3 (callsO (l.take i)).length ((callsO (l.take i)).flatMap Opn.cells) rfl hrow2 ⟨w1.heap.size, 0, none⟩ 1 _ g.cells rfl rfl hcn (cells_oneO g) h63 hbytes hsz ?_; intro v7 w7 hR7 hG7 hv7))
        have hR8 : w7.ownsRow w.heap.size 46 4 v7 (callsO (l.take (i + 1))).length ((callsO (l.take (i + 1))).flatMap Opn.cells) := by
          rw [HN.out, List.length_append, List.flatMap_append]
          simpa using hR7
        have hB8 : Below w.heap.size w w7 := by
          have hlow : ∀ k, k < w.heap.size → (some k : Option Nat) ≠ u3.ownBlock := fun k hk e => by
            have := (HROW.out.lt k e.symm).1
            omega
          have hal : Below w.heap.size w (w1.alloc (.cells #[.int .i64 g.kind, .string g.name, .string g.to, .slice g.A g.n g.c] 46)) := HBW.out.alloc HBW.out.size _
          exact ⟨hG7.os.trans hal.os, hG7.tape.trans hal.tape, hG7.output.trans hal.output, Nat.le_trans hal.size hG7.size, fun k hk => (hG7.block k (by have := hal.size; omega) (hlow k hk)).trans (hal.block k hk)⟩
        have HR : Hid (w7.ownsRow w.heap.size 46 4 v7 (callsO (l.take (i + 1))).length ((callsO (l.take (i + 1))).flatMap Opn.cells) ∧ Below w.heap.size w w7) := ⟨hR8, hB8⟩
        clear hR7 hG7 hv7 hrow2 hcn hR8 hB8 c0 c1 c2 c3
        try go_wp2_with fail
        go_roundw
        case rel => exact ⟨i + 1, by go_num, by omega, HR⟩
        case measure => simp [intOf]; omega
    · obtain rfl : i = len := by omega
      have b1 : ¬ i < i := Nat.lt_irrefl i
      have HF : Hid (l.take i = l) := by show _ = _; rw [← HL.out, List.take_length]
      rw [HF.out] at HI
      clear HH
      go_wp2_with fail
      go_ret
      obtain ⟨hr, hbw⟩ := HI.out
      have hlw : (callsO l).length ≤ l.length := List.length_filter_le _ _
      have hok : ∀ s ∈ callsO l, OpnOk wr s := fun s hs => (HOK.out s (List.mem_filter.1 hs).1).below hbw
      rcases hr.2 with ⟨h1, h2⟩ | ⟨g, cap', cur, h1, h2, h3, h4, h5, h6, h7⟩
      · refine ⟨none, 0, by show Ending.returned u3 = _; rw [h1, h2], ⟨rfl, by omega, Nat.zero_le _, hok, .inl (List.eq_nil_of_length_eq_zero h2)⟩, hbw⟩
      · refine ⟨some ⟨g, 0, none⟩, cap', by show Ending.returned u3 = _; rw [h1], ⟨rfl, h4, h5, hok, .inr ⟨g, 0, rfl, (Array.getElem?_eq_some_iff.1 h3).1, fun k hk j v hv => ?_⟩⟩, hbw⟩
        have := hr.cells (g := g) (by rw [h1]; rfl) (k * 4 + j) v (cells_flatO _ k hk j v hv)
        have e : ((⟨g, 0, none⟩ : Addr).add (k * 4 + j)) = ⟨g, 0 + (k * 4 + j), none⟩ := by unfold Addr.add; split <;> simp_all
        rw [e] at this
        exact this
end Go.Proofs.Ytjdjidlopmanbaa
