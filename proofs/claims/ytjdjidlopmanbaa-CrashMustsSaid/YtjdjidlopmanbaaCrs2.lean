/-
  crash.Calls.
-/
import Derived.Test.YtjdjidlopmanbaaCrs3
namespace Go.Proofs.Ytjdjidlopmanbaa
open Go.RowKit
set_option linter.unusedVariables false

set_option maxRecDepth 100000 in
set_option maxHeartbeats 3200000 in
theorem calls_law : CallsLaw := by
  intro w a len cap l h hlen
  obtain ⟨hll0, hlc, hcm, hok, hsl⟩ := h
  have HH := Lib.hid hsl
  have HL := Lib.hid hll0
  clear hok hsl hll0
  go_enter Try.func18, Try.ntmps18
  go_wp2_with fail
  go_loopw [3, 5, 8] (fun nv _ iv wr => ∃ i n : Nat, iv = .int .i64 (i : Int) ∧ nv = .int .i64 (n : Int) ∧ i ≤ len ∧ Hid ((callsO (l.take i)).length = n ∧ Below w.heap.size w wr)) (fun _ _ iv _ => len - (intOf iv).toNat)
  case atStart => exact ⟨0, 0, rfl, rfl, Nat.zero_le _, rfl, Below.refl _ _⟩
  case round =>
    obtain ⟨i, n, rfl, rfl, hil, HI⟩ := hrel
    by_cases hlt : i < len
    · have hll : i < l.length := by rw [HL.out]; exact hlt
      obtain ⟨b, o, rfl, hb, hcell⟩ : ∃ b o, a = some ⟨b, o, none⟩ ∧ b < w.heap.size ∧ ∀ (i : Nat) (h : i < l.length) (j : Nat) v, l[i].cells[j]? = some v → w.cell? ⟨b, o + (i * 4 + j), none⟩ = some v := by
        rcases HH.out with h | h
        · rw [h] at hll; simp at hll
        · exact h
      obtain ⟨g, hg⟩ : ∃ g, l[i] = g := ⟨_, rfl⟩
      have hbw := HI.out.2
      have c0 : wr.cell? ⟨b, o + i * 4, none⟩ = some (.int .i64 g.kind) := by rw [hbw.cell hb, ← hg]; exact hcell i hll 0 _ rfl
      have c1 : wr.cell? ⟨b, o + i * 4 + 1, none⟩ = some (.string g.name) := by rw [hbw.cell hb, ← hg, Nat.add_assoc]; exact hcell i hll 1 _ rfl
      have c2 : wr.cell? ⟨b, o + i * 4 + 2, none⟩ = some (.string g.to) := by rw [hbw.cell hb, ← hg, Nat.add_assoc]; exact hcell i hll 2 _ rfl
      have c3 : wr.cell? ⟨b, o + i * 4 + 3, none⟩ = some (.slice g.A g.n g.c) := by rw [hbw.cell hb, ← hg, Nat.add_assoc]; exact hcell i hll 3 _ rfl
      obtain ⟨wa, hwa⟩ : ∃ wa, wr.alloc (.cells #[.int .i64 0, .string ⟨#[]⟩, .string ⟨#[]⟩, .slice none 0 0] 46) = wa := ⟨_, rfl⟩
      have HKA : Hid (Bk wa wr.heap.size 46 [.int .i64 0, .string ⟨#[]⟩, .string ⟨#[]⟩, .slice none 0 0]) := by show Bk _ _ _ _; rw [← hwa]; exact Bk.new wr _ _
      have HBA : Hid (Below wr.heap.size wr wa) := by show Below _ _ _; rw [← hwa]; exact (Below.refl _ wr).alloc (Nat.le_refl _) _
      have htk : callsO (l.take (i + 1)) = callsO (l.take i) ++ (if isCallO g then [g] else []) := by rw [List.take_succ_eq_append_getElem hll, callsO_snoc, hg]
      have HTK := Lib.hid htk
      have hni : n ≤ i := by rw [← HI.out.1]; exact Nat.le_trans (List.length_filter_le _ _) (by simp; omega)
      have hw : IntKind.i64.wrap ((i : Int) + 1) = ((i + 1 : Nat) : Int) := by rw [IntKind.wrap_i64]; omega
      have hwn : IntKind.i64.wrap ((n : Int) + 1) = ((n + 1 : Nat) : Int) := by rw [IntKind.wrap_i64]; omega
      clear hcell hll hg hbw HH htk
      go_wp2_with (first | (refine op_store (by rfl) (.tmp 5) (.tmp 11) (by rfl) g (by rfl) HKA.out (by rfl) ?_; intro wc hKC hgC hsC; have y0 := (show wc.cell? ⟨wr.heap.size, 0, none⟩ = some (.int .i64 g.kind) from hKC.cellAt 0 (show 0 < 4 by decide)); have y1 := (show wc.cell? ⟨wr.heap.size, 1, none⟩ = some (.string g.name) from hKC.cellAt 1 (show 1 < 4 by decide)); have y2 := (show wc.cell? ⟨wr.heap.size, 2, none⟩ = some (.string g.to) from hKC.cellAt 2 (show 2 < 4 by decide)); have y3 := (show wc.cell? ⟨wr.heap.size, 3, none⟩ = some (.slice g.A g.n g.c) from hKC.cellAt 3 (show 3 < 4 by decide)); have HBC : Hid (Below wr.heap.size wr wc) := below_own HBA.out hgC (Nat.le_refl _); clear hKC hgC hsC))
      refine (cis_any g wc).mono ?_
      rintro e w1 ⟨rfl, hb1⟩
      have HB1 : Hid (Below w.heap.size w w1) := (HI.out.2.trans (HBC.out.mono HI.out.2.size)).trans (hb1.mono (by have := HI.out.2.size; have := HBC.out.size; omega))
      clear hb1 c0 c1 c2 c3 y0 y1 y2 y3
      cases hc : isCallO g with
      | true =>
        have HN : Hid ((callsO (l.take (i + 1))).length = n + 1) := by show _ = _; rw [HTK.out, hc, List.length_append, HI.out.1]; rfl
        clear hc
        go_wp2_with fail
        go_roundw
        case rel => exact ⟨i + 1, n + 1, by go_num, by go_num, by omega, HN.out, HB1.out⟩
        case measure => simp [intOf]; omega
      | false =>
        have HN : Hid ((callsO (l.take (i + 1))).length = n) := by show _ = _; rw [HTK.out, hc, List.length_append, HI.out.1]; rfl
        clear hc
        go_wp2_with fail
        go_roundw
        case rel => exact ⟨i + 1, n, by go_num, rfl, by omega, HN.out, HB1.out⟩
        case measure => simp [intOf]; omega
    · obtain rfl : i = len := by omega
      have b1 : ¬ i < i := Nat.lt_irrefl i
      have HE : Hid ((callsO l).length = n) := by
        have h1 : l.take i = l := by rw [← HL.out, List.take_length]
        have := HI.out.1
        rw [h1] at this
        exact this
      clear HH
      go_wp2_with fail
      go_ret
      exact ⟨by rw [HE.out]; rfl, HI.out.2⟩

/-! ### Run -/
/-- The work up to the call that crashes; whether one did. -/
def runStop : DSt → List Opn → DSt × Bool
  | st, [] => (st, false)
  | st, o :: r => if isCallO o then (if (opS st o).2 = 19 then ((opS st o).1, true) else runStop (opS st o).1 r) else runStop st r
theorem stop_run : ∀ (l : List Opn) (s t : DSt), Twin s t → (runStop s l).1 = runS s (callsO l) ∧ (runStop s l).2 = (runS s (callsO l)).down
  | [], s, t, h => ⟨rfl, h.sup.symm⟩
  | o :: r, s, t, h => by
    unfold runStop callsO
    rw [List.filter_cons]
    cases ho : isCallO o with
    | false =>
      rw [if_neg (by decide), if_neg (by decide)]
      exact stop_run r s t h
    | true =>
      rw [if_pos rfl, if_pos rfl]
      have hr : ∀ x ∈ callsO r, isCallO x = true := fun x hx => (List.mem_filter.1 hx).2
      by_cases hl : s.left = 0
      · have e := opS_crash h.sup h.sarm hl ho
        rw [e, if_pos rfl]
        have e2 : runS s (o :: callsO r) = crashS s.keep s := by
          show runS (opS s o).1 (callsO r) = _
          rw [e]
          exact runS_down rfl _ hr
        show (crashS s.keep s = runS s (o :: callsO r)) ∧ (true = (runS s (o :: callsO r)).down)
        rw [e2]
        exact ⟨rfl, rfl⟩
      · obtain ⟨h1, _, _, _, h5⟩ := h.step ho hl
        rw [if_neg h5]
        exact stop_run r _ _ h1
theorem stop_size : ∀ (l : List Opn) (st : DSt), (∀ o ∈ l, o.data.length ≤ 200) → sizeF (runStop st l).1.files ≤ sizeF st.files + 200 * l.length
  | [], st, _ => Nat.le_add_right _ _
  | o :: r, st, h => by
    have h2 := size_op st o
    have h3 := h o (List.mem_cons_self ..)
    have hr : ∀ x ∈ r, x.data.length ≤ 200 := fun x hx => h x (List.mem_cons_of_mem _ hx)
    unfold runStop
    rw [List.length_cons, Nat.mul_add]
    split
    · split
      · show sizeF (opS st o).1.files ≤ _
        omega
      · have := stop_size r (opS st o).1 hr
        omega
    · have := stop_size r st hr
      omega
end Go.Proofs.Ytjdjidlopmanbaa
