/-
  Package taximeterref09: steps; Large.
-/
import Derived.Test.YtjdjidlopmanbaaRecs
namespace Go.Proofs.Ytjdjidlopmanbaa
open Go.RowKit
set_option linter.unusedVariables false

/-- A step, as its cells tell it. -/
structure Stp where
  kind : Int
  name : ByteArray
  to : ByteArray
  A : Option Addr
  n : Nat
  c : Nat
  data : List UInt8
  num : Int
  m : Int
def Stp.cells (s : Stp) : List Value := [.int .i64 s.kind, .string s.name, .string s.to, .slice s.A s.n s.c, .int .u64 s.num, .int .i64 s.m]
structure StpOk (w : World) (s : Stp) : Prop where
  kind : (Lit.int .i64 s.kind).wf = true
  name : s.name.size ≤ maxLen
  to : s.to.size ≤ maxLen
  len : s.data.length = s.n
  cap : s.n ≤ s.c
  max : s.c ≤ maxLen
  data : Bs w w.heap.size s.A s.data
  num : (Lit.int .u64 s.num).wf = true
  m : (Lit.int .i64 s.m).wf = true
/-- These steps lie in a slice. -/
def IsSteps (w : World) (a : Option Addr) (len cap : Nat) (l : List Stp) : Prop :=
  l.length = len ∧ len ≤ cap ∧ cap ≤ maxLen ∧ (∀ s ∈ l, StpOk w s) ∧ (l = [] ∨ ∃ b o, a = some ⟨b, o, none⟩ ∧ b < w.heap.size ∧
    ∀ (i : Nat) (h : i < l.length) (j : Nat) v, l[i].cells[j]? = some v → w.cell? ⟨b, o + (i * 6 + j), none⟩ = some v)
theorem steps_of {w : World} {a : Option Addr} {len cap : Nat} (h : IsRecs [isNum .i64, isText, isText, isRowF .u8, isNum .u64, isNum .i64] w a len cap) : ∃ l, IsSteps w a len cap l := by
  obtain ⟨h1, h2, h3⟩ := h
  rcases h3 with h0 | ⟨b, o, rfl, hb, hr⟩
  · exact ⟨[], h0.symm, h1, h2, (by simp), .inl rfl⟩
  · have hrow : ∀ i, i < len → ∃ s : Stp, StpOk w s ∧ ∀ (j : Nat) v, s.cells[j]? = some v → w.cell? ⟨b, o + (i * 6 + j), none⟩ = some v := by
      intro i hi
      obtain ⟨vs, hl, hp, hc⟩ := hr i hi
      match vs, hl with
      | [v0, v1, v2, v3, v4, v5], _ =>
        obtain ⟨z0, rfl, w0⟩ := hp 0 _ _ rfl rfl
        obtain ⟨s1, rfl, w1⟩ := hp 1 _ _ rfl rfl
        obtain ⟨s2, rfl, w2⟩ := hp 2 _ _ rfl rfl
        obtain ⟨A, n, c, zs, rfl, hrow⟩ := hp 3 _ _ rfl rfl
        obtain ⟨z4, rfl, w4⟩ := hp 4 _ _ rfl rfl
        obtain ⟨z5, rfl, w5⟩ := hp 5 _ _ rfl rfl
        obtain ⟨l, hll, hnc, hcm, hbs⟩ := hrow.bs
        exact ⟨⟨z0, s1, s2, A, n, c, l, z4, z5⟩, ⟨w0, w1, w2, hll, hnc, hcm, hbs, w4, w5⟩, hc⟩
    refine ⟨(List.range len).map fun i => if h : i < len then Classical.choose (hrow i h) else ⟨0, ⟨#[]⟩, ⟨#[]⟩, none, 0, 0, [], 0, 0⟩, by simp, h1, h2, ?_, .inr ⟨b, o, rfl, hb, ?_⟩⟩
    · intro s hs
      obtain ⟨i, hi, rfl⟩ := List.mem_map.1 hs
      have hil : i < len := List.mem_range.1 hi
      rw [dif_pos hil]
      exact (Classical.choose_spec (hrow i hil)).1
    · intro i hi j v hv
      have hil : i < len := by simpa using hi
      rw [List.getElem_map, List.getElem_range, dif_pos hil] at hv
      exact (Classical.choose_spec (hrow i hil)).2 j v hv
theorem StpOk.below {w w' : World} {s : Stp} (h : StpOk w s) (hb : Below w.heap.size w w') : StpOk w' s :=
  ⟨h.kind, h.name, h.to, h.len, h.cap, h.max, (h.data.below hb (Nat.le_refl _)).more hb.size, h.num, h.m⟩
theorem IsSteps.below {w w' : World} {a : Option Addr} {len cap : Nat} {l : List Stp} (h : IsSteps w a len cap l) (hb : Below w.heap.size w w') : IsSteps w' a len cap l := by
  obtain ⟨h1, h2, h3, h4, h5⟩ := h
  refine ⟨h1, h2, h3, fun s hs => (h4 s hs).below hb, ?_⟩
  rcases h5 with h5 | ⟨b, o, e, hlt, hc⟩
  · exact .inl h5
  · exact .inr ⟨b, o, e, Nat.lt_of_lt_of_le hlt hb.size, fun i hi j v hv => (hb.cell hlt).trans (hc i hi j v hv)⟩

/-- Not too large. -/
def smallS (s : Stp) : Bool := decide (s.n ≤ 200) && decide (s.name.size ≤ 100) && decide (s.to.size ≤ 100)
def largeL (l : List Stp) : Bool := (l.take 90).any (fun s => !smallS s) || decide (90 < l.length)
theorem large_next {l : List Stp} {i : Nat} (h : i < l.length) (h9 : i < 90) : (l.take 90).drop i = l[i] :: (l.take 90).drop (i + 1) := by
  rw [List.drop_eq_getElem_cons (by simp; omega), List.getElem_take]
theorem large_end {l : List Stp} {i : Nat} (h : l.length ≤ i ∨ 90 ≤ i) : (l.take 90).drop i = [] := List.drop_eq_nil_of_le (by simp; omega)
theorem small_of_large {l : List Stp} (h : largeL l = false) : l.length ≤ 90 ∧ ∀ s ∈ l, s.n ≤ 200 ∧ s.name.size ≤ 100 ∧ s.to.size ≤ 100 := by
  unfold largeL at h
  rw [Bool.or_eq_false_iff, decide_eq_false_iff_not] at h
  have hl : l.length ≤ 90 := by omega
  refine ⟨hl, fun s hs => ?_⟩
  rw [List.take_of_length_le hl, List.any_eq_false] at h
  have := h.1 s hs
  unfold smallS at this
  simp at this
  omega

end Go.Proofs.Ytjdjidlopmanbaa
