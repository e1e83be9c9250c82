/-
  Package taximeterref09: Do: a step of a disk.
-/
import Derived.Test.YtjdjidlopmanbaaRef9d
import Derived.Test.YtjdjidlopmanbaaRef9t
import Derived.Deep.QuietTactic
import Derived.Deep.RegionWith
namespace Go.Proofs.Ytjdjidlopmanbaa
open Go.RowKit
set_option linter.unusedVariables false

/-- Where Find finds: a place, one and no other. -/
theorem findR_one {l : List Fil} (ha : Apart (l.map Fil.pf)) {nm : List UInt8} {x y : Int} (hx : FindR l nm x) (hy : FindR l nm y) : x = y := by
  have hne : ∀ (i j : Nat) (hi : i < l.length) (hj : j < l.length), bl l[i].name = bl l[j].name → i = j := fun i j hi hj e => by
    have h1 := List.pairwise_iff_getElem.1 ha
    rcases Nat.lt_trichotomy i j with h | h | h
    · exact absurd e (by have := h1 i j (by simpa using hi) (by simpa using hj) h; rw [List.getElem_map, List.getElem_map] at this; exact this)
    · exact h
    · exact absurd e.symm (by have := h1 j i (by simpa using hj) (by simpa using hi) h; rw [List.getElem_map, List.getElem_map] at this; exact this)
  rcases hx with ⟨i, hi, rfl, ei⟩ | ⟨rfl, hx⟩ <;> rcases hy with ⟨j, hj, rfl, ej⟩ | ⟨rfl, hy⟩
  · rw [hne i j hi hj (ei.trans ej.symm)]
  · exact absurd ei (hy _ (List.getElem_mem hi))
  · exact absurd ej (hx _ (List.getElem_mem hj))
  · rfl
theorem RDsk.find {w : World} {x : Nat} {st : DSt} {A : Option Addr} {c : Nat} {l : List Fil} (h : RDsk w x st A c l) (nm : ByteArray) {y : Int} (hy : FindR l (bl nm) y) :
    Calls Try.prog 32 #[.slice A l.length c, .string nm] w fun e w' => e = .returned (.int .i64 y) ∧ ∃ n, w' = w.drewN n :=
  (find_any h.files h.room h.max nm).mono fun _ _ ⟨z, he, hz, hn⟩ => ⟨by rw [he, findR_one (by rw [h.pf]; exact h.good.apart) hz hy], hn⟩
theorem RDsk.drewN {w : World} {x : Nat} {st : DSt} {A : Option Addr} {c : Nat} {l : List Fil} (h : RDsk w x st A c l) (n : Nat) : RDsk (w.drewN n) x st A c l := h.grown (below_drewN (Below.refl _ w) n)
/-- What Find tells of the state's files. -/
theorem RDsk.place {w : World} {x : Nat} {st : DSt} {A : Option Addr} {c : Nat} {l : List Fil} (h : RDsk w x st A c l) (nm : List UInt8) :
    (findF nm st.files = none ∧ FindR l nm (-1)) ∨ ∃ (i : Nat) (hi : i < l.length), findF nm st.files = some l[i].pf ∧ FindR l nm (i : Int) ∧ bl l[i].name = nm := by
  cases hf : findF nm st.files with
  | none =>
    refine .inl ⟨rfl, .inr ⟨rfl, fun f hf' => ?_⟩⟩
    exact findF_none hf f.pf (by rw [← h.pf]; exact List.mem_map_of_mem hf')
  | some p =>
    obtain ⟨hp, hn⟩ := findF_some hf
    rw [← h.pf] at hp
    obtain ⟨f, hfl, rfl⟩ := List.mem_map.1 hp
    obtain ⟨i, hi, rfl⟩ := List.mem_iff_getElem.1 hfl
    exact .inr ⟨i, hi, rfl, .inl ⟨i, hi, rfl, hn⟩, hn⟩
theorem len_ins (f : PF) : ∀ l : List PF, (insF f l).length = l.length + 1
  | [] => rfl
  | g :: r => by
    unfold insF
    split
    · rfl
    · rw [List.length_cons, len_ins f r, List.length_cons]
theorem len_put (f : PF) (l : List PF) : (putF f l).length ≤ l.length + 1 := by
  unfold putF
  rw [len_ins]
  have := List.length_filter_le (fun g : PF => !(g.name == f.name)) l
  unfold dropF
  omega
theorem len_drop_lt {nm : List UInt8} {l : List PF} {f : PF} (hf : findF nm l = some f) : (dropF nm l).length < l.length := by
  obtain ⟨h1, h2⟩ := findF_some hf
  unfold dropF
  exact List.length_filter_lt_length_iff_exists.2 ⟨f, h1, by simp [h2]⟩
theorem len_put_there {f g : PF} {l : List PF} (hf : findF f.name l = some g) : (putF f l).length ≤ l.length := by
  unfold putF
  rw [len_ins]
  exact len_drop_lt hf

theorem RetR.off {go : DSt → DSt × Int} {st : DSt} {x : Nat} {w w' w0 : World} (hb : (beginS st).2 = false) (h0 : w0.grownBy w (some x)) (hI : IsR w' x (beginS st).1) (hg : w.grownBy w' (some x)) :
    RetR (.int .i64 (callS go st).2) (callS go st).1 x w0 (.returned (.int .i64 19)) w' := by
  have : callS go st = ((beginS st).1, 19) := by unfold callS; rw [if_neg (by rw [hb]; decide)]
  rw [this]
  exact ⟨rfl, hI, grownX h0 hg⟩
theorem RetR.on {go : DSt → DSt × Int} {st st' : DSt} {v : Int} {x : Nat} {w w' w0 : World} (hb : (beginS st).2 = true) (h0 : w0.grownBy w (some x)) (hr : go (beginS st).1 = (st', v)) (hI : IsR w' x st') (hg : w.grownBy w' (some x)) :
    RetR (.int .i64 (callS go st).2) (callS go st).1 x w0 (.returned (.int .i64 v)) w' := by
  have : callS go st = (st', v) := by unfold callS; rw [if_pos hb, hr]
  rw [this]
  exact ⟨rfl, hI, grownX h0 hg⟩

/-- The list with a file, stored. -/
theorem RDsk.withF {W w4 : World} {x : Nat} {st : DSt} {A : Option Addr} {c : Nat} {l : List Fil} (h : RDsk W x st A c l) (F : Fil) (hs : F.sure ≤ F.data.length) (hn : (putF F.pf st.files).length ≤ 1024) (hz : sizeF (putF F.pf st.files) ≤ 1099511627776)
    {A4 : Option Addr} {n4 c4 : Nat} (hv : FSl w4 (fun b => b ≠ x) (.slice A4 n4 c4) (wiF F l)) (hb : Below W.heap.size W w4) :
    IsR (w4.setCell ⟨x, 0, none⟩ (.slice A4 n4 c4)) x { st with files := putF F.pf st.files } ∧ W.grownBy (w4.setCell ⟨x, 0, none⟩ (.slice A4 n4 c4)) (some x) := by
  obtain ⟨A', c', e, hF, hc, hm⟩ := hv
  obtain ⟨rfl, rfl, rfl⟩ : A4 = A' ∧ n4 = (wiF F l).length ∧ c4 = c' := by simpa using e
  have hg := grown_set w4 x 0 (.slice A4 (wiF F l).length c4)
  have hpf : (wiF F l).map Fil.pf = putF F.pf st.files := by rw [wiF_pf F l (by rw [h.pf]; exact h.ris), h.pf]
  refine ⟨⟨A4, c4, wiF F l, h.list (W := w4) { st with files := putF F.pf st.files } (by rw [hpf]) hF hc hm (h.ris.put _) (h.good.put _ hs) hn hz ?_ hg⟩, grownX (grownXB hb _) hg⟩
  exact (h.grown hb).blk.set_ 0 (.slice A4 (wiF F l).length c4)
theorem RDsk.withoutF {W w4 : World} {x : Nat} {st : DSt} {A : Option Addr} {c : Nat} {l : List Fil} (h : RDsk W x st A c l) (nm : List UInt8)
    {A4 : Option Addr} {n4 c4 : Nat} (hv : FSl w4 (fun b => b ≠ x) (.slice A4 n4 c4) (woF nm l)) (hb : Below W.heap.size W w4) :
    (∃ l4, RDsk (w4.setCell ⟨x, 0, none⟩ (.slice A4 n4 c4)) x { st with files := dropF nm st.files } A4 c4 l4 ∧ l4.length = n4) ∧ W.grownBy (w4.setCell ⟨x, 0, none⟩ (.slice A4 n4 c4)) (some x) := by
  obtain ⟨A', c', e, hF, hc, hm⟩ := hv
  obtain ⟨rfl, rfl, rfl⟩ : A4 = A' ∧ n4 = (woF nm l).length ∧ c4 = c' := by simpa using e
  have hg := grown_set w4 x 0 (.slice A4 (woF nm l).length c4)
  have hpf : (woF nm l).map Fil.pf = dropF nm st.files := by rw [woF_pf, h.pf]
  refine ⟨⟨woF nm l, h.list (W := w4) { st with files := dropF nm st.files } (by rw [hpf]) hF hc hm (h.ris.drop _) (h.good.drop _) ?_ ?_ ?_ hg, rfl⟩, grownX (grownXB hb _) hg⟩
  · exact Nat.le_trans (List.length_filter_le _ _) h.count
  · exact Nat.le_trans (sizeF_drop nm st.files) h.size
  · exact (h.grown hb).blk.set_ 0 (.slice A4 (woF nm l).length c4)
theorem FSl.form {w : World} {Q : Nat → Prop} {v : Value} {l : List Fil} (h : FSl w Q v l) : ∃ A n c, v = .slice A n c ∧ FSl w Q (.slice A n c) l := by
  obtain ⟨A, c, rfl, h2⟩ := h
  exact ⟨A, _, c, rfl, A, c, rfl, h2⟩

/-- A file is stored into a block of its own. -/
theorem file_store {ops : Array Oper} {rest : List Oper} {o : Oper} {a : Act} {w : World} {Q : Exit → Act → World → Prop} (hgd : o.guard = none) (x y : Operand) (ho : o.op = .store 50 x y)
    {g : Nat} {t' : TypeId} {b c d a' b' c' : Value} (hx : a.eval x = .pointer (some ⟨g, 0, none⟩)) (h : Bk w g t' [b, c, d]) (hy : a.eval y = .agg #[a', b', c'])
    (h1 : ∀ v ∈ [a', b', c'], v.oneCell' = true) (hK : ∀ w', Bk w' g t' [a', b', c'] → w.grownBy w' (some g) → w'.heap.size = w.heap.size → wpList Try.prog ops Q rest (a.put o.dst undef) w') : wpList Try.prog ops Q (o :: rest) a w :=
  wpList_store_row hgd 50 x y ho g #[a', b', c'] hx hy t' #[b, c, d] h (by kernel_rfl) rfl (by rw [Array.all_eq_true_iff_forall_mem]; simpa using h1) (hK _ (Bk.row (vs := [b, c, d]) h #[a', b', c']) (grown_row _ _ _) (by simp [World.setRow]))
theorem below_own {w w2 w3 : World} {g : Nat} (h : Below w.heap.size w w2) (hg : w2.grownBy w3 (some g)) (hlt : w.heap.size ≤ g) : Below w.heap.size w w3 :=
  ⟨hg.os.trans h.os, hg.tape.trans h.tape, hg.output.trans h.output, Nat.le_trans h.size hg.size, fun k hk => (hg.block k (by have := h.size; omega) (by simp; omega)).trans (h.block k hk)⟩

end Go.Proofs.Ytjdjidlopmanbaa
