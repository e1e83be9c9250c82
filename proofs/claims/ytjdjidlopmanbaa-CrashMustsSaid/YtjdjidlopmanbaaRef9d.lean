/-
  Package taximeterref09: a disk in memory; Crash, begin.
-/
import Derived.Test.YtjdjidlopmanbaaRef9c
import Derived.Test.YtjdjidlopmanbaaBlk
namespace Go.Proofs.Ytjdjidlopmanbaa
open Go.RowKit
set_option linter.unusedVariables false

def rcells (A : Option Addr) (n c : Nat) (st : DSt) : List Value := [.slice A n c, .int .i64 st.cap, .int .u64 (st.calls : Int), .bool st.armed, .int .u64 (st.left : Int), .int .i64 st.keep, .bool st.down]
structure RDsk (w : World) (x : Nat) (st : DSt) (A : Option Addr) (c : Nat) (l : List Fil) : Prop where
  blk : Bk w x 39 (rcells A l.length c st)
  files : IsFiles w (fun b => b ≠ x) A l
  room : l.length ≤ c
  max : c ≤ maxLen
  pf : l.map Fil.pf = st.files
  ris : RisF st.files
  good : GoodS st
  count : st.files.length ≤ 1024
  cap : (Lit.int .i64 st.cap).wf = true
  cap0 : 0 ≤ st.cap
  calls : st.calls < 18446744073709551616
  left : st.left < 18446744073709551616
  keep : (Lit.int .i64 st.keep).wf = true
  size : sizeF st.files ≤ 1099511627776
def IsR (w : World) (x : Nat) (st : DSt) : Prop := ∃ A c l, RDsk w x st A c l
theorem RDsk.len {w : World} {x : Nat} {st : DSt} {A : Option Addr} {c : Nat} {l : List Fil} (h : RDsk w x st A c l) : l.length ≤ 1024 := by
  have := h.count
  rw [← h.pf, List.length_map] at this
  exact this
theorem RDsk.sure {w : World} {x : Nat} {st : DSt} {A : Option Addr} {c : Nat} {l : List Fil} (h : RDsk w x st A c l) : ∀ f ∈ l, f.sure ≤ f.n := fun f hf => by
  have h1 := h.good.sure f.pf (by rw [← h.pf]; exact List.mem_map_of_mem hf)
  have h2 := (h.files.1 f hf).len
  have h3 : f.sure ≤ f.data.length := h1
  omega
theorem RDsk.grown {w w' : World} {x : Nat} {st : DSt} {A : Option Addr} {c : Nat} {l : List Fil} (h : RDsk w x st A c l) (hb : Below w.heap.size w w') : RDsk w' x st A c l :=
  { h with
    blk := (hb.block x h.blk.lt).trans h.blk
    files := h.files.below hb }
/-- The struct's cells are others, and the state as they tell it. -/
theorem RDsk.row {w : World} {x : Nat} {st : DSt} {A : Option Addr} {c : Nat} {l : List Fil} (h : RDsk w x st A c l) (st' : DSt) (hf : st'.files = st.files) (hc : st'.cap = st.cap) (h1 : st'.calls < 18446744073709551616) (h2 : st'.left < 18446744073709551616) (h3 : (Lit.int .i64 st'.keep).wf = true) {w' : World}
    (hw : Bk w' x 39 (rcells A l.length c st')) (hb : w.grownBy w' (some x)) : RDsk w' x st' A c l :=
  { h with
    blk := hw
    files := h.files.keep (fun b hlt hq => hb.block b hlt (by simpa using hq)) hb.size
    pf := by rw [hf]; exact h.pf
    ris := by rw [hf]; exact h.ris
    good := ⟨by rw [hf]; exact h.good.apart, by rw [hf]; exact h.good.sure⟩
    count := by rw [hf]; exact h.count
    cap := by rw [hc]; exact h.cap
    cap0 := by rw [hc]; exact h.cap0
    calls := h1
    left := h2
    keep := h3
    size := by rw [hf]; exact h.size }
/-- Another list of files. -/
theorem RDsk.list {w W w' : World} {x : Nat} {st : DSt} {A : Option Addr} {c : Nat} {l : List Fil} (h : RDsk w x st A c l) {A' : Option Addr} {c' : Nat} {l' : List Fil} (st' : DSt) (hst : st' = { st with files := l'.map Fil.pf }) (hF : IsFiles W (fun b => b ≠ x) A' l') (hc : l'.length ≤ c') (hm : c' ≤ maxLen)
    (hris : RisF st'.files) (hg : GoodS st') (hn : st'.files.length ≤ 1024) (hz : sizeF st'.files ≤ 1099511627776) (hw : Bk w' x 39 (rcells A' l'.length c' st')) (hb : W.grownBy w' (some x)) : RDsk w' x st' A' c' l' where
  blk := hw
  files := hF.keep (fun b hlt hq => hb.block b hlt (by simpa using hq)) hb.size
  room := hc
  max := hm
  pf := by rw [hst]
  ris := hris
  good := hg
  count := hn
  cap := by rw [hst]; exact h.cap
  cap0 := by rw [hst]; exact h.cap0
  calls := by rw [hst]; exact h.calls
  left := by rw [hst]; exact h.left
  keep := by rw [hst]; exact h.keep
  size := hz
def RetR (v : Value) (st : DSt) (x : Nat) (w : World) (e : Ending) (w' : World) : Prop := e = .returned v ∧ IsR w' x st ∧ w.grownBy w' (some x)
theorem grownX {a b c : World} {row : Option Nat} (h : a.grownBy b row) (k : b.grownBy c row) : a.grownBy c row :=
  ⟨k.os.trans h.os, k.tape.trans h.tape, k.output.trans h.output, Nat.le_trans h.size k.size, fun i hi hne => (k.block i (Nat.lt_of_lt_of_le hi h.size) hne).trans (h.block i hi hne)⟩
theorem grownXB {a b : World} (h : Below a.heap.size a b) (row : Option Nat) : a.grownBy b row := ⟨h.os, h.tape, h.output, h.size, fun i hi _ => h.block i hi⟩

set_option maxRecDepth 100000 in
set_option maxHeartbeats 1600000 in
theorem rcrash_any {w : World} {x : Nat} {st : DSt} {A : Option Addr} {c : Nat} {l : List Fil} (h : RDsk w x st A c l) (keep : Int) (hk : (Lit.int .i64 keep).wf = true) :
    Calls Try.prog 29 #[.pointer (some ⟨x, 0, none⟩), .int .i64 keep] w (RetR (.tuple #[]) (crashS keep st) x w) := by
  have c0 : w.cell? ⟨x, 0, none⟩ = some (.slice A l.length c) := h.blk.cellAt 0 (show 0 < 7 by decide)
  have hx := h.blk.lt
  have HC := Lib.hid (cut_any h.files (fun b hb => show b ≠ x by omega) h.room h.max (Nat.le_trans h.len (by decide)) h.sure keep hk)
  have HH := Lib.hid h
  clear h
  go_enter Try.func29, Try.ntmps29
  go_wp2_with fail
  refine HC.out.mono ?_
  rintro e w1 ⟨v, rfl, ⟨A1, c1, hv, hF1, hc1, hm1⟩, hb1⟩
  rw [List.length_map] at hv
  subst hv
  have hB := (HH.out.grown hb1).blk
  have d0 : w1.cell? ⟨x, 0, none⟩ = some (.slice A l.length c) := hB.cellAt 0 (show 0 < 7 by decide)
  have f0 : w1.frozen? ⟨x, 0, none⟩ = false := hB.frozen 0
  obtain ⟨V, hV⟩ : ∃ V, Value.slice A1 l.length c1 = V := ⟨_, rfl⟩
  have hB1 := hB.set_ 0 V
  have d3 : (w1.setCell ⟨x, 0, none⟩ V).cell? ⟨x, 3, none⟩ = some (.bool st.armed) := hB1.cellAt 3 (show 3 < 7 by decide)
  have f3 : (w1.setCell ⟨x, 0, none⟩ V).frozen? ⟨x, 3, none⟩ = false := hB1.frozen 3
  have hB2 := hB1.set_ 3 (.bool false)
  have d6 : ((w1.setCell ⟨x, 0, none⟩ V).setCell ⟨x, 3, none⟩ (.bool false)).cell? ⟨x, 6, none⟩ = some (.bool st.down) := hB2.cellAt 6 (show 6 < 7 by decide)
  have f6 : ((w1.setCell ⟨x, 0, none⟩ V).setCell ⟨x, 3, none⟩ (.bool false)).frozen? ⟨x, 6, none⟩ = false := hB2.frozen 6
  have hV1 : V.oneCell' = true := by rw [← hV]; rfl
  have hres : RetR (.tuple #[]) (crashS keep st) x w (.returned (.tuple #[])) (((w1.setCell ⟨x, 0, none⟩ V).setCell ⟨x, 3, none⟩ (.bool false)).setCell ⟨x, 6, none⟩ (.bool true)) := by
    have hg3 : w1.grownBy (((w1.setCell ⟨x, 0, none⟩ V).setCell ⟨x, 3, none⟩ (.bool false)).setCell ⟨x, 6, none⟩ (.bool true)) (some x) := grownX (grownX (grown_set w1 x 0 _) (grown_set _ x 3 _)) (grown_set _ x 6 _)
    refine ⟨rfl, ⟨A1, c1, l.map (cutR keep), ?_⟩, grownX (grownXB hb1 _) hg3⟩
    have h := HH.out
    have hpf : (l.map (cutR keep)).map Fil.pf = st.files.map (cutF keep) := by rw [cutR_pf, h.pf]
    have hgc := h.good.crash keep
    exact {
      blk := by
        have := hB2.set_ 6 (.bool true)
        rw [List.length_map]
        rw [← hV] at this ⊢
        exact this
      files := hF1.keep (fun b hlt hq => hg3.block b hlt (by simpa using hq)) hg3.size
      room := hc1
      max := hm1
      pf := hpf
      ris := h.ris.map _ fun _ => rfl
      good := hgc
      count := by show (st.files.map _).length ≤ _; rw [List.length_map]; exact h.count
      cap := h.cap
      cap0 := h.cap0
      calls := h.calls
      left := h.left
      keep := h.keep
      size := Nat.le_trans (sizeF_cut keep st.files) h.size }
  have HR := Lib.hid hres
  clear hB hB1 hB2 hres hF1 hb1
  subst hV
  go_wp2_with fail
  (first | go_end0 | (refine bodyPost_ret (results_none rfl _ _ _) rfl ?_))
  exact HR.out

set_option maxRecDepth 100000 in
set_option maxHeartbeats 1600000 in
theorem rbegin_any {w : World} {x : Nat} {st : DSt} {A : Option Addr} {c : Nat} {l : List Fil} (h : RDsk w x st A c l) :
    Calls Try.prog 30 #[.pointer (some ⟨x, 0, none⟩)] w (RetR (.bool (beginS st).2) (beginS st).1 x w) := by
  have HC := Lib.hid (rcrash_any h st.keep h.keep)
  have hB := h.blk
  have hcl := h.calls
  have hll := h.left
  have HH := Lib.hid h
  clear h
  obtain ⟨files, cap, calls, armed, left, keep, down⟩ := st
  have c6 : w.cell? ⟨x, 6, none⟩ = some (.bool down) := hB.cellAt 6 (show 6 < 7 by decide)
  have c3 : w.cell? ⟨x, 3, none⟩ = some (.bool armed) := hB.cellAt 3 (show 3 < 7 by decide)
  have c4 : w.cell? ⟨x, 4, none⟩ = some (.int .u64 (left : Int)) := hB.cellAt 4 (show 4 < 7 by decide)
  have c5 : w.cell? ⟨x, 5, none⟩ = some (.int .i64 keep) := hB.cellAt 5 (show 5 < 7 by decide)
  have c2 : w.cell? ⟨x, 2, none⟩ = some (.int .u64 (calls : Int)) := hB.cellAt 2 (show 2 < 7 by decide)
  have f2 : w.frozen? ⟨x, 2, none⟩ = false := hB.frozen 2
  have f4 : w.frozen? ⟨x, 4, none⟩ = false := hB.frozen 4
  simp only at hcl hll
  obtain ⟨c', hc'⟩ : ∃ c', (calls + 1) % 18446744073709551616 = c' := ⟨_, rfl⟩
  have hwc : IntKind.u64.wrap ((calls : Int) + 1) = (c' : Int) := by rw [IntKind.wrap_u64]; omega
  cases down
  case true =>
    clear HC c3 c4 c5 c2 f2 f4 hB hwc
    go_enter Try.func30, Try.ntmps30
    go_wp2_with fail
    go_ret
    exact ⟨rfl, ⟨A, c, l, HH.out⟩, World.grownBy.refl w _⟩
  case false =>
    cases armed
    case false =>
      have hres : RetR (.bool (beginS ⟨files, cap, calls, false, left, keep, false⟩).2) (beginS ⟨files, cap, calls, false, left, keep, false⟩).1 x w (.returned (.bool true)) (w.setCell ⟨x, 2, none⟩ (.int .u64 (c' : Int))) := by
        refine ⟨rfl, ⟨A, c, l, HH.out.row ⟨files, cap, (calls + 1) % 18446744073709551616, false, left, keep, false⟩ rfl rfl (show (calls + 1) % 18446744073709551616 < _ from Nat.mod_lt _ (by decide)) hll HH.out.keep ?_ (grown_set w x 2 _)⟩, grown_set w x 2 _⟩
        have := hB.set_ 2 (.int .u64 (c' : Int))
        rw [← hc'] at this ⊢
        exact this
      have HR := Lib.hid hres
      clear hres HC c4 c5 hB hc' hcl hll
      go_enter Try.func30, Try.ntmps30
      go_wp2_with fail
      go_ret
      exact HR.out
    case true =>
      by_cases hl0 : left = 0
      · subst hl0
        clear c2 f2 f4 hB hwc hc' hcl hll
        go_enter Try.func30, Try.ntmps30
        go_wp2_with fail
        refine HC.out.mono ?_
        rintro e w2 ⟨rfl, hI, hE⟩
        go_wp2_with fail
        go_ret
        exact ⟨rfl, hI, hE⟩
      · have hb0 : ((left : Int) == 0) = false := by rw [beq_eq_false_iff_ne]; omega
        have hwl : IntKind.u64.wrap ((left : Int) - 1) = ((left - 1 : Nat) : Int) := by rw [IntKind.wrap_u64]; omega
        have hB1 := hB.set_ 4 (.int .u64 ((left - 1 : Nat) : Int))
        have d2 : (w.setCell ⟨x, 4, none⟩ (.int .u64 ((left - 1 : Nat) : Int))).cell? ⟨x, 2, none⟩ = some (.int .u64 (calls : Int)) := hB1.cellAt 2 (show 2 < 7 by decide)
        have e2 : (w.setCell ⟨x, 4, none⟩ (.int .u64 ((left - 1 : Nat) : Int))).frozen? ⟨x, 2, none⟩ = false := hB1.frozen 2
        have hbs : beginS ⟨files, cap, calls, true, left, keep, false⟩ = (⟨files, cap, c', true, left - 1, keep, false⟩, true) := by
          unfold beginS
          simp [hl0, hc']
        have hres : RetR (.bool (beginS ⟨files, cap, calls, true, left, keep, false⟩).2) (beginS ⟨files, cap, calls, true, left, keep, false⟩).1 x w (.returned (.bool true)) ((w.setCell ⟨x, 4, none⟩ (.int .u64 ((left - 1 : Nat) : Int))).setCell ⟨x, 2, none⟩ (.int .u64 (c' : Int))) := by
          rw [hbs]
          have hg := grownX (grown_set w x 4 (.int .u64 ((left - 1 : Nat) : Int))) (grown_set _ x 2 (.int .u64 (c' : Int)))
          exact ⟨rfl, ⟨A, c, l, HH.out.row ⟨files, cap, c', true, left - 1, keep, false⟩ rfl rfl (show c' < 18446744073709551616 by omega) (show left - 1 < 18446744073709551616 by omega) HH.out.keep (hB1.set_ 2 (.int .u64 (c' : Int))) hg⟩, hg⟩
        have HR := Lib.hid hres
        clear hres HC c5 hB hB1 hc' hcl hll hbs
        go_enter Try.func30, Try.ntmps30
        go_wp2_with fail
        go_ret
        exact HR.out
end Go.Proofs.Ytjdjidlopmanbaa
