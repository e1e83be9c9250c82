/-
  An argument that is a slice of arrays of integers, as the frame of a law tells it.
-/
import Derived.Test.YtfbdncjbpcgfnaaDoorArr
import Derived.Deep.Slices
namespace Go.Proofs.YtfbdncjbpcgfnaaDoor
open Go.RowKit
set_option linter.unusedVariables false

theorem trod_arrI {H : Type} {enc : TypeId × Value → H} {P : Program} {w : World} {base : Nat} {spare : Nat → Bool} {held : Bool} {t e : TypeId} {n : Nat} {k : IntKind} {fuel : Nat} {cs : List Value} {x : DataW H × List MemPlace}
    (ht : P.underlying t = some (.array n e)) (he : P.underlying e = some (.int k)) (h1 : P.cellsOf e = 1) (hs : P.cellsOf t = n) (hn : cs.length = n) (hf : DataW.trod enc P w base spare held fuel t cs = some x) :
    ∃ zs : List Int, zs.length = n ∧ (∀ z ∈ zs, (Lit.int k z).wf = true) ∧ cs = zs.map (Value.int k) := by
  have hcell : ∀ (i : Nat) (hi : i < cs.length), ∃ z, cs[i] = .int k z ∧ (Lit.int k z).wf = true := by
    cases fuel with
    | zero => simp [DataW.trod] at hf
    | succ m =>
      intro i hi
      rw [DataW.trod_step] at hf
      unfold DataW.trodStep at hf
      simp only [ht] at hf
      rw [if_pos (by rw [hs]; exact hn)] at hf
      simp only [Option.map_eq_some_iff] at hf
      obtain ⟨ys, hy, -⟩ := hf
      obtain ⟨y, hy⟩ := mapM_some hy i (by rw [List.mem_range]; omega)
      rw [h1, Nat.mul_one] at hy
      have e1 : (cs.drop i).take 1 = [cs[i]] := by
        rw [List.drop_eq_getElem_cons hi, List.take_succ_cons, List.take_zero]
      rw [e1] at hy
      obtain ⟨z, hz, -, hw⟩ := DataW.trod_int he hy
      simp at hz
      exact ⟨z, hz, hw⟩
  refine ⟨cs.map intOf, by simpa using hn, ?_, ?_⟩
  · intro z hz
    obtain ⟨u, hu, rfl⟩ := List.mem_map.1 hz
    obtain ⟨i, hi, rfl⟩ := List.mem_iff_getElem.1 hu
    obtain ⟨z, e, hw⟩ := hcell i hi
    rw [e]
    exact hw
  · apply List.ext_getElem
    · simp
    · intro i h2 h3
      obtain ⟨z, e, hw⟩ := hcell i h2
      simp [e, intOf]

/-- What the frame of a law tells of a slice of arrays of n integers. -/
def IsRows (k : IntKind) (n : Nat) (w : World) (a : Option Addr) (len cap : Nat) (zss : List (List Int)) : Prop :=
  zss.length = len ∧ len ≤ cap ∧ cap ≤ maxLen ∧ (∀ zs ∈ zss, zs.length = n ∧ ∀ z ∈ zs, (Lit.int k z).wf = true) ∧ Vs w w.heap.size a (zss.flatten.map (Value.int k))

theorem flat_at_n {α : Type} (n : Nat) (hn0 : 0 < n) : ∀ (zss : List (List α)), (∀ zs ∈ zss, zs.length = n) → ∀ (p : Nat), zss.flatten[p]? = (zss[p / n]?).bind fun zs => zs[p % n]?
  | [], _, p => by simp
  | x :: r, h, p => by
    have hx := h x (by simp)
    have ih := flat_at_n n hn0 r (fun y hy => h y (by simp [hy]))
    rw [List.flatten_cons, List.getElem?_append]
    by_cases hp : p < n
    · rw [if_pos (by omega), Nat.div_eq_of_lt hp, Nat.mod_eq_of_lt hp]
      rfl
    · rw [if_neg (by omega), ih, hx]
      have e1 : p / n = (p - n) / n + 1 := by
        have : p = (p - n) + n := by omega
        rw [this, Nat.add_div_right _ hn0]
        simp
      have e2 : p % n = (p - n) % n := by
        have : p = (p - n) + n := by omega
        rw [this, Nat.add_mod_right]
        simp
      rw [e1, e2]
      rfl

theorem open_rowsI {H : Type} {enc : TypeId × Value → H} {P : Program} {w : World} {base : Nat} {spare : Nat → Bool} {held : Bool} {t u e : TypeId} {n : Nat} {k : IntKind} {a : Option Addr} {len cap : Nat} {d : DataW H} {ps : List MemPlace}
    (ht : P.underlying t = some (.slice u)) (hu : P.underlying u = some (.array n e)) (he : P.underlying e = some (.int k)) (h1 : P.cellsOf e = 1) (hs : P.cellsOf u = n) (hn0 : 0 < n) (hd : DataW.Trod enc P w base spare held t (.slice a len cap) d ps) :
    ∃ zss, IsRows k n w a len cap zss := by
  obtain ⟨fuel, hf⟩ := hd
  rcases Deep.open_slice ht hf with ⟨hcs, _⟩ | ⟨b, l, c, m, fn, D, Pl, hcs, _, hl, hm, hmm, _, hi⟩
  · simp [Value.cells] at hcs
    obtain ⟨rfl, rfl, rfl⟩ := hcs
    exact ⟨[], rfl, Nat.le_refl _, Nat.zero_le _, by simp, .inl (by simp)⟩
  · simp [Value.cells] at hcs
    obtain ⟨rfl, rfl, rfl⟩ := hcs
    have hlm : len ≤ m := by rw [hmm]; split <;> omega
    have hrow : ∀ i, i < len → ∃ zs : List Int, zs.length = n ∧ (∀ z ∈ zs, (Lit.int k z).wf = true) ∧ ∀ j, j < n → w.cell? ((b.add (i * n)).add j) = some (.int k (zs.getD j 0)) := by
      intro i hil
      obtain ⟨cs', hc, htr⟩ := hi i (by omega)
      rw [hs] at hc
      obtain ⟨_, hcl, hat⟩ := World.cells?_some hc
      obtain ⟨zs, hzl, hzw, rfl⟩ := trod_arrI hu he h1 hs hcl htr
      refine ⟨zs, hzl, hzw, fun j hj => ?_⟩
      rw [hat j hj, List.getElem?_map, List.getElem?_eq_getElem (by omega)]
      simp [List.getD, List.getElem?_eq_getElem (show j < zs.length by omega)]
    have hex : ∃ zss : List (List Int), zss.length = len ∧ ∀ i (hil : i < len), (zss.getD i []).length = n ∧ (∀ z ∈ zss.getD i [], (Lit.int k z).wf = true) ∧ ∀ j, j < n → w.cell? ((b.add (i * n)).add j) = some (.int k ((zss.getD i []).getD j 0)) := by
      refine ⟨(List.range len).map fun i => if h : i < len then Classical.choose (hrow i h) else [], by simp, fun i hil => ?_⟩
      have e : ((List.range len).map fun i => if h : i < len then Classical.choose (hrow i h) else []).getD i [] = Classical.choose (hrow i hil) := by
        simp [List.getD, hil]
      rw [e]
      exact Classical.choose_spec (hrow i hil)
    obtain ⟨zss, hzl, hz⟩ := hex
    have hall : ∀ zs ∈ zss, zs.length = n ∧ ∀ z ∈ zs, (Lit.int k z).wf = true := by
      intro zs hzs
      obtain ⟨i, hil, rfl⟩ := List.mem_iff_getElem.1 hzs
      have := hz i (by omega)
      rw [List.getD_eq_getElem?_getD, List.getElem?_eq_getElem hil, Option.getD_some] at this
      exact ⟨this.1, this.2.1⟩
    refine ⟨zss, hzl, hl, hm, hall, ?_⟩
    rcases Nat.eq_zero_or_pos len with h0 | h0
    · have : zss = [] := List.eq_nil_of_length_eq_zero (by omega)
      subst this
      exact .inl (by simp)
    · obtain ⟨bk, off, spot⟩ := b
      have hc0 := (hz 0 h0).2.2 0 hn0
      have hspot : spot = none := by simpa [Addr.add] using World.cell?_spot hc0
      subst hspot
      have had : ∀ i j : Nat, (({ block := bk, off := off, spot := none } : Addr).add i).add j = ⟨bk, off + (i + j), none⟩ := fun i j => by
        have e1 : ∀ (o q : Nat), ({ block := bk, off := o, spot := none } : Addr).add q = ⟨bk, o + q, none⟩ := fun o q => by unfold Addr.add; split <;> simp_all
        rw [e1, e1, Nat.add_assoc]
      refine .inr ⟨bk, off, rfl, ?_, fun p hp => ?_⟩
      · rw [had] at hc0
        exact World.block_lt_of_cell? w _ hc0
      · have hpl : p < zss.flatten.length := by rwa [List.length_map] at hp
        have hfa := flat_at_n n hn0 zss (fun zs h => (hall zs h).1) p
        rw [List.getElem?_eq_getElem hpl] at hfa
        have hdiv : p / n < zss.length := by
          rcases Nat.lt_or_ge (p / n) zss.length with h | h
          · exact h
          · rw [List.getElem?_eq_none h] at hfa
            simp at hfa
        have hmod : p % n < n := Nat.mod_lt _ hn0
        have h3 := (hz (p / n) (by omega)).2.2 (p % n) hmod
        rw [had, Nat.div_add_mod' p n] at h3
        rw [h3]
        have h4 := (hall zss[p / n] (List.getElem_mem hdiv)).1
        rw [List.getElem?_eq_getElem hdiv, Option.bind_some, List.getElem?_eq_getElem (by omega)] at hfa
        simp only [Option.some.injEq] at hfa
        rw [List.getElem_map, hfa]
        congr 2
        simp [List.getD, List.getElem?_eq_getElem hdiv, List.getElem?_eq_getElem (show p % n < zss[p / n].length by omega)]

/-- Bytes, row by row. -/
theorem IsRows.bs {n : Nat} {w : World} {a : Option Addr} {len cap : Nat} {zss : List (List Int)} (h : IsRows .u8 n w a len cap zss) :
    ∃ bs : List (List UInt8), bs.length = len ∧ (∀ x ∈ bs, x.length = n) ∧ len ≤ cap ∧ cap ≤ maxLen ∧ Bs w w.heap.size a bs.flatten := by
  obtain ⟨h1, h2, h3, h4, h5⟩ := h
  refine ⟨zss.map fun zs => zs.map fun z => UInt8.ofNat z.toNat, by simp [h1], ?_, h2, h3, ?_⟩
  · intro x hx
    obtain ⟨zs, hzs, rfl⟩ := List.mem_map.1 hx
    simpa using (h4 zs hzs).1
  · unfold Bs
    have e : ((zss.map fun zs => zs.map fun z => UInt8.ofNat z.toNat).flatten).map bv = zss.flatten.map (Value.int .u8) := by
      rw [← List.map_flatten, List.map_map]
      refine List.map_congr_left fun z hz => ?_
      obtain ⟨zs, hzs, hz'⟩ := List.mem_flatten.1 hz
      have := Go.bounds_u8 ((h4 zs hzs).2 z hz')
      simp [bv]
      omega
    rw [e]
    exact h5
end Go.Proofs.YtfbdncjbpcgfnaaDoor
