/-
  A parameter that is a slice of structs of fields of one cell each.
-/
import Derived.Test.YtoielghmgjdknaaMem
import Derived.Deep.Slices
import Derived.Deep.Fields
import Derived.ChangeSlices
import Derived.ChangeArms
namespace Go.Proofs.Ytoielghmgjdknaa
open Go.ChangeShapes Go.WideShapes Go.RowKit Go.Deep
set_option linter.unusedVariables false

/-! ### what a field's cell is -/
def isNum (k : IntKind) (w : World) (v : Value) : Prop := ∃ z, v = .int k z ∧ (Lit.int k z).wf = true
def isTruth (w : World) (v : Value) : Prop := ∃ b, v = .bool b
def isText (w : World) (v : Value) : Prop := ∃ s, v = .string s ∧ s.size ≤ maxLen
def isRowF (k : IntKind) (w : World) (v : Value) : Prop := ∃ a len cap zs, v = .slice a len cap ∧ IsRow k w a len cap zs
section
variable {H : Type} {enc : TypeId × Value → H} {P : Program} {w : World} {base : Nat} {spare : Nat → Bool} {held : Bool}
theorem fld_num {t : TypeId} {k : IntKind} (ht : P.underlying t = some (.int k)) (fuel : Nat) (v : Value) (x : DataW H × List MemPlace) (h : DataW.trod enc P w base spare held fuel t [v] = some x) : isNum k w v := by
  obtain ⟨n, h1, _, h2⟩ := DataW.trod_int ht h
  exact ⟨n, by simpa using h1, h2⟩
theorem fld_truth {t : TypeId} (ht : P.underlying t = some .bool) (fuel : Nat) (v : Value) (x : DataW H × List MemPlace) (h : DataW.trod enc P w base spare held fuel t [v] = some x) : isTruth w v := by
  obtain ⟨n, h1, _⟩ := DataW.trod_bool ht h
  exact ⟨n, by simpa using h1⟩
theorem fld_text {t : TypeId} (ht : P.underlying t = some .string) (fuel : Nat) (v : Value) (x : DataW H × List MemPlace) (h : DataW.trod enc P w base spare held fuel t [v] = some x) : isText w v := by
  obtain ⟨n, h1, _, h2⟩ := DataW.trod_string ht h
  exact ⟨n, by simpa using h1, h2⟩
theorem fld_row (hsp : ∀ b, spare b = true) {t e : TypeId} {k : IntKind} (ht : P.underlying t = some (.slice e)) (he : P.underlying e = some (.int k)) (hc : P.cellsOf e = 1) (fuel : Nat) (v : Value) (x : DataW H × List MemPlace) (h : DataW.trod enc P w base spare held fuel t [v] = some x) : isRowF k w v := by
  rcases open_ints ht he hc h with ⟨hcs, _⟩ | ⟨a, l, c, zs, hcs, _, hl, hm, hz, _, hcell, hwz⟩
  · simp at hcs
    exact ⟨none, 0, 0, [], hcs, .inl ⟨rfl, rfl, rfl, rfl⟩⟩
  · simp at hcs
    exact ⟨some a, l, c, zs, hcs, .inr ⟨_, rfl, hl, hm, by rw [hz, hsp, if_pos rfl], hcell, hwz⟩⟩
end

/-- A slice of structs: row by row, field by field. -/
def IsRecs (ps : List (World → Value → Prop)) (w : World) (a : Option Addr) (len cap : Nat) : Prop :=
  len ≤ cap ∧ cap ≤ maxLen ∧ (len = 0 ∨ ∃ b o, a = some ⟨b, o, none⟩ ∧ b < w.heap.size ∧
    ∀ i, i < len → ∃ vs : List Value, vs.length = ps.length ∧ (∀ (j : Nat) p v, ps[j]? = some p → vs[j]? = some v → p w v) ∧ ∀ (j : Nat) v, vs[j]? = some v → w.cell? ⟨b, o + (i * ps.length + j), none⟩ = some v)
theorem open_recs {H : Type} {enc : TypeId × Value → H} {P : Program} {w : World} {base : Nat} {spare : Nat → Bool} {held : Bool} {t u : TypeId} {fs : Array Field} {a : Option Addr} {len cap : Nat} {d : DataW H} {q : List MemPlace}
    (ht : P.underlying t = some (.slice u)) (hu : P.underlying u = some (.struct fs)) (hone : oneCellFields P fs = true) (hC : P.cellsOf u = fs.size) (h0 : 0 < fs.size) (ps : List (World → Value → Prop)) (hps : ps.length = fs.size)
    (hf : ∀ (j : Nat) f p, fs[j]? = some f → ps[j]? = some p → ∀ fuel v x, DataW.trod enc P w base spare held fuel f.type [v] = some x → p w v)
    (hd : DataW.Trod enc P w base spare held t (.slice a len cap) d q) : IsRecs ps w a len cap := by
  obtain ⟨fuel, hf0⟩ := hd
  rcases Deep.open_slice ht hf0 with ⟨hcs, _⟩ | ⟨b, l, c, m, fn, D, Pl, hcs, _, hl, hm, hmm, _, hi⟩
  · simp [Value.cells] at hcs
    obtain ⟨rfl, rfl, rfl⟩ := hcs
    exact ⟨Nat.le_refl _, Nat.zero_le _, .inl rfl⟩
  · simp [Value.cells] at hcs
    obtain ⟨rfl, rfl, rfl⟩ := hcs
    have hlm : len ≤ m := by rw [hmm]; split <;> omega
    refine ⟨hl, hm, ?_⟩
    rcases Nat.eq_zero_or_pos len with hz | hz
    · exact .inl hz
    have hrow : ∀ i, i < len → ∃ vs : List Value, vs.length = ps.length ∧ (∀ (j : Nat) p v, ps[j]? = some p → vs[j]? = some v → p w v) ∧ ∀ (j : Nat) v, vs[j]? = some v → w.cell? ((b.add (i * ps.length)).add j) = some v := by
      intro i hil
      obtain ⟨cs', hc, htr⟩ := hi i (by omega)
      rw [hC] at hc
      obtain ⟨ys, n', _, _, _, hyl, hfs⟩ := DataW.trod_struct hu htr
      obtain ⟨_, hcl, hat⟩ := World.cells?_some hc
      refine ⟨cs', by rw [hcl, hps], fun j p v hp hv => ?_, fun j v hv => ?_⟩
      · have hj : j < fs.size := by
          have := (List.getElem?_eq_some_iff.1 hp).1
          omega
        have hjf : fs[j]? = some fs[j] := Array.getElem?_eq_getElem hj
        obtain ⟨ho, hk⟩ := hone_of hone j _ hjf
        have h1 := hfs j _ hjf
        rw [ho, hk] at h1
        have hjl : j < cs'.length := by omega
        have e : (cs'.drop j).take 1 = [v] := by
          rw [List.drop_eq_getElem_cons hjl, List.take_succ_cons, List.take_zero]
          rw [List.getElem?_eq_getElem hjl] at hv
          rw [Option.some.inj hv]
        rw [e, List.getElem?_eq_getElem (by omega)] at h1
        exact hf j _ p hjf hp _ v _ h1
      · have hjl : j < fs.size := by
          have := (List.getElem?_eq_some_iff.1 hv).1
          omega
        rw [hps, hat j hjl, hv]
    have had : ∀ i j : Nat, ∀ (o q : Nat) (bk : Nat), ({ block := bk, off := o, spot := none } : Addr).add q = ⟨bk, o + q, none⟩ := fun _ _ o q bk => by unfold Addr.add; split <;> simp_all
    obtain ⟨bk, off, spot⟩ := b
    obtain ⟨vs0, hv0, _, hc0⟩ := hrow 0 hz
    have h00 : vs0[0]? = some (vs0[0]'(by omega)) := List.getElem?_eq_getElem (by omega)
    have hcell := hc0 0 _ h00
    have hspot : spot = none := by simpa [Addr.add] using World.cell?_spot hcell
    subst hspot
    refine .inr ⟨bk, off, rfl, ?_, fun i hil => ?_⟩
    · rw [had 0 0, had 0 0] at hcell
      exact World.block_lt_of_cell? w _ hcell
    · obtain ⟨vs, h1, h2, h3⟩ := hrow i hil
      refine ⟨vs, h1, h2, fun j v hv => ?_⟩
      have := h3 j v hv
      rw [had 0 0, had 0 0, Nat.add_assoc] at this
      exact this
theorem IsRecs.len_le {ps : List (World → Value → Prop)} {w : World} {a : Option Addr} {len cap : Nat} (h : IsRecs ps w a len cap) : len ≤ cap ∧ cap ≤ maxLen := ⟨h.1, h.2.1⟩
end Go.Proofs.Ytoielghmgjdknaa
