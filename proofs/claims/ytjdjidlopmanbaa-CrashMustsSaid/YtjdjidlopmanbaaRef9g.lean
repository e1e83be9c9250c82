/-
  Package taximeterref09: Same: lists of the same files.
-/
import Derived.Test.YtjdjidlopmanbaaRef9a
import Derived.Test.YtjdjidlopmanbaaRef01
import Derived.Deep.QuietTactic
namespace Go.Proofs.Ytjdjidlopmanbaa
open Go.RowKit
set_option linter.unusedVariables false

set_option maxRecDepth 100000 in
set_option maxHeartbeats 3200000 in
theorem rsameT_any {w : World} {Q Q' : Nat → Prop} {a a' : Option Addr} {c c' : Nat} {l m : List Fil} (h : IsFiles w Q a l) (h' : IsFiles w Q' a' m) (hc : l.length ≤ c) (hc' : m.length ≤ c') (hm : c ≤ maxLen) (hm' : c' ≤ maxLen) (he : l.map Fil.pf = m.map Fil.pf) (hz : ∀ f ∈ l, f.n ≤ 140737488355328) :
    Calls Try.prog 7 #[.slice a l.length c, .slice a' m.length c'] w fun e w' => e = .returned (.bool true) ∧ ∃ n, w' = w.drewN n := by
  have hlm : l.length = m.length := by have := congrArg List.length he; simpa using this
  unfold maxLen at hm hm'
  obtain ⟨len, hl⟩ : ∃ len, l.length = len := ⟨_, rfl⟩
  rw [← hlm, hl] at hc'
  rw [hl] at hc
  have HL := Lib.hid hl
  have HL' : Hid (m.length = len) := by show _ = _; rw [← hlm, hl]
  have HH := Lib.hid h
  have HH' := Lib.hid h'
  have HE := Lib.hid he
  have HZ := Lib.hid hz
  rw [← hlm, hl]
  clear h h' hl hlm he hz
  go_enter Try.func7, Try.ntmps7
  go_wp2_with fail
  go_loopw [5] (fun v wr => ∃ i : Nat, v = .int .i64 (i : Int) ∧ i ≤ len ∧ ∃ n, wr = w.drewN n) (fun v _ => len - (intOf v).toNat)
  case atStart => exact ⟨0, rfl, Nat.zero_le _, 0, rfl⟩
  case round =>
    obtain ⟨i, rfl, hil, q, rfl⟩ := hrel
    by_cases hlt : i < len
    · have hll : i < l.length := by rw [HL.out]; exact hlt
      have hmm : i < m.length := by rw [HL'.out]; exact hlt
      obtain ⟨b, o, rfl, hb, _, hcell⟩ : ∃ b o, a = some ⟨b, o, none⟩ ∧ b < w.heap.size ∧ Q b ∧ ∀ (i : Nat) (h : i < l.length) (j : Nat) v, l[i].cells[j]? = some v → w.cell? ⟨b, o + (i * 3 + j), none⟩ = some v := by
        rcases HH.out.2 with h | h
        · rw [h] at hll; simp at hll
        · exact h
      obtain ⟨b', o', rfl, hb', _, hcell'⟩ : ∃ b o, a' = some ⟨b, o, none⟩ ∧ b < w.heap.size ∧ Q' b ∧ ∀ (i : Nat) (h : i < m.length) (j : Nat) v, m[i].cells[j]? = some v → w.cell? ⟨b, o + (i * 3 + j), none⟩ = some v := by
        rcases HH'.out.2 with h | h
        · rw [h] at hmm; simp at hmm
        · exact h
      obtain ⟨f, hf⟩ : ∃ f, l[i] = f := ⟨_, rfl⟩
      obtain ⟨g, hg⟩ : ∃ g, m[i] = g := ⟨_, rfl⟩
      have hfo := HH.out.1 f (by rw [← hf]; exact List.getElem_mem hll)
      have hgo := HH'.out.1 g (by rw [← hg]; exact List.getElem_mem hmm)
      have hfz := HZ.out f (by rw [← hf]; exact List.getElem_mem hll)
      have hfg : f.pf = g.pf := by
        have h1 := List.getElem_of_eq HE.out (i := i) (by simpa using hll)
        rw [List.getElem_map, List.getElem_map, hf, hg] at h1
        exact h1
      have e1 : bl f.name = bl g.name := congrArg PF.name hfg
      have e2 : f.data = g.data := congrArg PF.data hfg
      have e3 : f.sure = g.sure := congrArg PF.sure hfg
      have en : g.n = f.n := by rw [← hfo.len, ← hgo.len, e2]
      have z0 : (w.drewN q).cell? ⟨b, o + i * 3, none⟩ = some (.string f.name) := by rw [← hf]; exact hcell i hll 0 _ rfl
      have z1 : (w.drewN q).cell? ⟨b, o + i * 3 + 1, none⟩ = some (.slice f.A f.n f.c) := by rw [← hf, Nat.add_assoc]; exact hcell i hll 1 _ rfl
      have z2 : (w.drewN q).cell? ⟨b, o + i * 3 + 2, none⟩ = some (.int .i64 (f.sure : Int)) := by rw [← hf, Nat.add_assoc]; exact hcell i hll 2 _ rfl
      have y0 : (w.drewN q).cell? ⟨b', o' + i * 3, none⟩ = some (.string g.name) := by rw [← hg]; exact hcell' i hmm 0 _ rfl
      have y1 : (w.drewN q).cell? ⟨b', o' + i * 3 + 1, none⟩ = some (.slice g.A f.n g.c) := by rw [← en, ← hg, Nat.add_assoc]; exact hcell' i hmm 1 _ rfl
      have y2 : (w.drewN q).cell? ⟨b', o' + i * 3 + 2, none⟩ = some (.int .i64 (f.sure : Int)) := by rw [e3, ← hg, Nat.add_assoc]; exact hcell' i hmm 2 _ rfl
      have hcmp : (f.name.toList == g.name.toList) = true := by rw [bl_toList, bl_toList, e1]; simp
      have b1 : (i : Int) < (len : Int) := by omega
      have hw : IntKind.i64.wrap ((i : Int) + 1) = ((i + 1 : Nat) : Int) := by rw [IntKind.wrap_i64]; omega
      have hsm : ∀ k, Calls Try.prog 19 #[.slice f.A f.n f.c, .slice g.A f.n g.c] ((w.drewN q).drewN k) fun e w' => e = .returned (.bool true) ∧ ∃ n, w' = (w.drewN q).drewN n := fun k => by
        refine (same_any f.A g.A f.n f.n f.c g.c f.data g.data w.heap.size _ hfo.len (by rw [hgo.len, en]) ((hfo.bs.drewN q).drewN k) ((hgo.bs.drewN q).drewN k) (by rw [hfo.len]; unfold maxLen; omega) (by rw [hgo.len, en]; unfold maxLen; omega)).mono ?_
        rintro e w' ⟨rfl, n, rfl⟩
        exact ⟨by rw [decide_eq_true e2], k + n, by simp [Nat.add_assoc]⟩
      have HSM := Lib.hid hsm
      obtain ⟨W, hW⟩ : ∃ W, w.drewN q = W := ⟨_, rfl⟩
      have HWq : Hid (∀ n, ∃ p, W.drewN n = w.drewN p) := fun n => ⟨q + n, by rw [← hW]; simp⟩
      rw [hW] at z0 z1 z2 y0 y1 y2 HSM ⊢
      clear hcell hcell' hll hmm hf hg hfo hgo hfz hfg e1 e2 e3 en hsm hW HH HH'
      go_wp2_with fail
      go_quiet ((go_at_call 19; with_reducible exact HSM.out _))
      go_wp2_with fail
      go_roundw
      case rel => exact ⟨i + 1, by go_num, by omega, HWq.out _⟩
      case measure => simp [intOf]; omega
    · obtain rfl : i = len := by omega
      have b1 : ¬ i < i := Nat.lt_irrefl i
      clear HH HH'
      go_wp2_with fail
      go_ret
      exact ⟨rfl, _, rfl⟩
end Go.Proofs.Ytjdjidlopmanbaa
