/-
  Fields in a block of the call's own.
-/
import Derived.Test.YtcofhjkmpkfbfaaDoorLine2
import Derived.Deep.MidRow
namespace Go.Proofs.YtcofhjkmpkfbfaaDoor
open Go.RowKit
set_option linter.unusedVariables false

/-- A block with no byte in it. -/
def NoByte (w : World) (G : Nat) : Prop := ∀ i z, w.cell? ⟨G, i, none⟩ ≠ some (.int .u8 z)
theorem Vs.some {w w' : World} {B : Nat} {A : Option Addr} {xs : List Value} (h : Vs w B A xs) (hc : ∀ b i v, w.cell? ⟨b, i, none⟩ = some v → v ∈ xs → w'.cell? ⟨b, i, none⟩ = some v) : Vs w' B A xs := by
  rcases h with h | ⟨b, o, h, hb, hx⟩
  · exact .inl h
  · exact .inr ⟨b, o, h, hb, fun j hj => hc _ _ _ (hx j hj) (List.getElem_mem _)⟩
theorem IsFld.some {w w' : World} {f : Fld} {x y z : Value} (h : IsFld w f x y z) (hc : ∀ b i v, w.cell? ⟨b, i, none⟩ = some v → (∃ n, v = .int .u8 n) → w'.cell? ⟨b, i, none⟩ = some v) (hs : w.heap.size ≤ w'.heap.size) : IsFld w' f x y z := by
  obtain ⟨T, A, n, c, h1, h2, h3, h4, h5, h6, h7, h8⟩ := h
  refine ⟨T, A, n, c, h1, h2, h3, h4, h5, h6, h7, Bs.more ?_ hs⟩
  refine Vs.some h8 fun b i v hv hm => hc b i v hv ?_
  obtain ⟨u, _, rfl⟩ := List.mem_map.1 hm
  exact ⟨_, rfl⟩
/-- These fields lie at the head of block G, which has room for m. -/
structure Flds (w : World) (G m : Nat) (fs : List Fld) : Prop where
  lt : G < w.heap.size
  room : w.there G 0 (3 * m)
  nb : NoByte w G
  le : fs.length ≤ m
  at_ : ∀ (j : Nat) (h : j < fs.length), ∃ x y z, w.rangeAt G (3 * j) [x, y, z] ∧ IsFld w fs[j] x y z
theorem Flds.keep {w w' : World} {G m : Nat} {fs : List Fld} (h : Flds w G m fs) (hG : w'.heap[G]? = w.heap[G]?) (hc : ∀ b i v, w.cell? ⟨b, i, none⟩ = some v → w'.cell? ⟨b, i, none⟩ = some v) (hs : w.heap.size ≤ w'.heap.size) : Flds w' G m fs := by
  have e : ∀ i, w'.cell? ⟨G, i, none⟩ = w.cell? ⟨G, i, none⟩ := fun i => World.cell?_of_block hG
  refine ⟨Nat.lt_of_lt_of_le h.lt hs, fun j hj => ?_, fun i z => ?_, h.le, fun j hj => ?_⟩
  · obtain ⟨h1, h2⟩ := h.room j hj
    refine ⟨by rw [e]; exact h1, ?_⟩
    rw [← h2]
    simp [World.frozen?, hG]
  · rw [e]
    exact h.nb i z
  · obtain ⟨x, y, z, h1, h2⟩ := h.at_ j hj
    exact ⟨x, y, z, fun i v hv => hc _ _ _ (h1 i v hv), h2.some (fun b i v hv _ => hc b i v hv) hs⟩
theorem Flds.below {w w' : World} {G m : Nat} {fs : List Fld} (h : Flds w G m fs) (hb : Below w.heap.size w w') : Flds w' G m fs :=
  h.keep (hb.block G h.lt) (fun b i v hv => (hb.cell (World.block_lt_of_cell? w _ hv)).trans hv) hb.size
theorem Flds.iterAt {w : World} {G m : Nat} {fs : List Fld} (h : Flds w G m fs) {k : Nat} {s : ByteArray} {p : Nat} (hk : w.heap[k]? = some (.stringIter s p)) (hne : G ≠ k) (p' : Nat) : Flds (w.iterAt k s p') G m fs := by
  refine h.keep (Lib.iterAt_other w k G s p' hne) (fun b i v hv => ?_) (Nat.le_of_eq (Lib.iterAt_size w k s p').symm)
  have hbk : b ≠ k := by
    rintro rfl
    simp [World.cell?, hk] at hv
  rw [World.cell?_of_block (Lib.iterAt_other w k b s p' hbk)]
  exact hv
theorem Flds.put {w : World} {G m : Nat} {fs : List Fld} (h : Flds w G m fs) {f : Fld} {x y z : Value} (hf : IsFld w f x y z) (hlt : fs.length < m) : Flds (w.setCells G (3 * fs.length) [x, y, z]) G m (fs ++ [f]) := by
  have hs : (w.setCells G (3 * fs.length) [x, y, z]).heap.size = w.heap.size := by simp [World.setCells]
  have hth : w.there G (3 * fs.length) [x, y, z].length := fun j hj => by
    have h3 : j < 3 := hj
    have := h.room (3 * fs.length + j) (by omega)
    rwa [Nat.zero_add] at this
  have hc : ∀ b i v, w.cell? ⟨b, i, none⟩ = some v → (∃ n, v = .int .u8 n) → (w.setCells G (3 * fs.length) [x, y, z]).cell? ⟨b, i, none⟩ = some v := by
    rintro b i v hv ⟨n, rfl⟩
    rw [World.cell?_setCells_out G _ _ w ⟨b, i, none⟩ (fun hb _ => by
      exfalso
      simp only at hb
      subst hb
      exact h.nb i n hv)]
    exact hv
  obtain ⟨T, A, n, c, rfl, rfl, rfl, h4, h5, h6, h7, h8⟩ := hf
  refine ⟨by rw [hs]; exact h.lt, World.there_setCells h.room _ _ _, fun i u => ?_, by simp; omega, fun j hj => ?_⟩
  · by_cases hi : i < 3 * fs.length ∨ 3 * fs.length + 3 ≤ i
    · rw [World.cell?_setCells_out G _ _ w ⟨G, i, none⟩ (fun _ _ => hi)]
      exact h.nb i u
    · have hj : i - 3 * fs.length < 3 := by omega
      have := World.cell?_setCells_in G [.string T, .int .u64 (f.num : Int), .slice A n c] (3 * fs.length) w (fun k hk => (hth k hk).1) (i - 3 * fs.length) hj
      rw [show 3 * fs.length + (i - 3 * fs.length) = i by omega] at this
      rw [this]
      match i - 3 * fs.length, hj with
      | 0, _ => simp
      | 1, _ => simp
      | 2, _ => simp
  · rcases Nat.lt_or_ge j fs.length with hlt' | hge
    · obtain ⟨x', y', z', h1, h2⟩ := h.at_ j hlt'
      refine ⟨x', y', z', World.rangeAt_setCells_apart h1 _ _ _ (.inr (.inl (by simp only [List.length_cons, List.length_nil]; omega))), ?_⟩
      rw [List.getElem_append_left hlt']
      exact h2.some hc (by rw [hs]; exact Nat.le_refl _)
    · have ej : j = fs.length := by simp at hj; omega
      subst ej
      refine ⟨.string T, .int .u64 (f.num : Int), .slice A n c, World.rangeAt_setCells_same w G _ _ hth, ?_⟩
      rw [List.getElem_append_right (Nat.le_refl _)]
      simp only [Nat.sub_self, List.getElem_cons_zero]
      exact IsFld.some ⟨T, A, n, c, rfl, rfl, rfl, h4, h5, h6, h7, h8⟩ hc (by rw [hs]; exact Nat.le_refl _)
/-- make([]Field, m) -/
theorem make_flds (m : Nat) (hm : m ≤ 65536) : ∃ CS : Array Value, (∀ w : World, (Instr.makeSlice 28 (.int .i64 (m : Int)) (.int .i64 (m : Int))).run Tryd.prog w = .ok (.slice (some ⟨w.heap.size, 0, none⟩) m m) (w.alloc (.cells CS 35))) ∧
    ∀ w : World, Flds (w.alloc (.cells CS 35)) w.heap.size m [] := by
  obtain ⟨i, hi, hz, hs, hby⟩ : ∃ i, Tryd.prog.info? 35 = some i ∧ i.zero = some (.agg #[.string ⟨#[]⟩, .int .u64 0, .slice none 0 0]) ∧ i.size = 3 ∧ i.bytes = 48 := info_parts (by kernel_rfl)
  refine ⟨madeCells #[.string ⟨#[]⟩, .int .u64 0, .slice none 0 0] (m * 3), fun w => ?_, fun w => ?_⟩
  · have h := run_make (P := Tryd.prog) w 28 35 i _ Tryd.underlying28 hi hz .i64 .i64 m m (by omega) (Int.le_refl _) (by rw [hby]; omega) (by omega)
    rw [h, hs]
    rfl
  · have hB : (w.alloc (.cells (madeCells #[.string ⟨#[]⟩, .int .u64 0, .slice none 0 0] (m * 3)) 35)).heap[w.heap.size]? = some (.cells (madeCells #[.string ⟨#[]⟩, .int .u64 0, .slice none 0 0] (m * 3)) 35 (0, 0)) := heap_alloc_new w _
    have hc : ∀ i, i < m * 3 → ∃ v, (w.alloc (.cells (madeCells #[.string ⟨#[]⟩, .int .u64 0, .slice none 0 0] (m * 3)) 35)).cell? ⟨w.heap.size, i, none⟩ = some v ∧ ∀ z, v ≠ .int .u8 z := by
      intro i hi
      rw [cell_of_row _ _ _ _ _ _ hB]
      refine ⟨_, Array.getElem?_eq_getElem (by simpa [madeCells] using hi), fun z => ?_⟩
      have h3 : i % 3 < 3 := Nat.mod_lt _ (by omega)
      simp only [madeCells, Array.getElem_map, Array.getElem_range]
      show #[Value.string ⟨#[]⟩, .int .u64 0, .slice none 0 0][i % 3]! ≠ _
      match i % 3, h3 with
      | 0, _ => simp
      | 1, _ => simp
      | 2, _ => simp
    refine ⟨by show _ < (w.heap.push _).size; simp, fun j hj => ?_, fun i z h => ?_, Nat.zero_le _, fun j hj => by simp at hj⟩
    · obtain ⟨v, hv, _⟩ := hc (0 + j) (by omega)
      exact ⟨by rw [hv]; rfl, by unfold World.frozen?; rw [hB]; rfl⟩
    · rcases Nat.lt_or_ge i (m * 3) with h' | h'
      · obtain ⟨v, hv, hn⟩ := hc i h'
        rw [hv] at h
        exact hn z (Option.some.inj h)
      · rw [cell_of_row _ _ _ _ _ _ hB, Array.getElem?_eq_none (by simpa [madeCells] using h')] at h
        cases h
end Go.Proofs.YtcofhjkmpkfbfaaDoor
