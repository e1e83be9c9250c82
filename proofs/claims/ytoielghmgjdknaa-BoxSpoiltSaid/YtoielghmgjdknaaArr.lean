/-
  An argument that is an array of integers, as the frame of a law tells it.
-/
import Derived.Test.YtoielghmgjdknaaMem
import Derived.WideKeyArr2
namespace Go.Proofs.Ytoielghmgjdknaa
open Go.RowKit
set_option linter.unusedVariables false

theorem mapM_some {α β : Type} {f : α → Option β} : ∀ {l : List α} {ys : List β}, l.mapM f = some ys → ∀ a ∈ l, ∃ y, f a = some y
  | [], _, _, a, ha => by simp at ha
  | x :: l, ys, h, a, ha => by
    simp only [List.mapM_cons, Option.bind_eq_bind, Option.bind_eq_some_iff] at h
    obtain ⟨y, hy, zs, hz, _⟩ := h
    rcases List.mem_cons.1 ha with rfl | ha
    · exact ⟨y, hy⟩
    · exact mapM_some hz a ha

theorem open_arrI {H : Type} {enc : TypeId × Value → H} {P : Program} {w : World} {base b0 : Nat} {spare : Nat → Bool} {held : Bool} {r : Reach} {t e : TypeId} {n : Nat} {k : IntKind} {v : Value} {d : DataW H} {ps : List MemPlace}
    (ht : P.underlying t = some (.array n e)) (he : P.underlying e = some (.int k)) (h1 : P.cellsOf e = 1) (hs : P.cellsOf t = n) (hv : Value.okWide P w r b0 t v) (hd : DataW.Trod enc P w base spare held t v d ps) :
    ∃ zs : List Int, zs.length = n ∧ (∀ z ∈ zs, (Lit.int k z).wf = true) ∧ v = .agg (zs.map (Value.int k)).toArray := by
  simp only [Value.okWide, ht] at hv
  obtain ⟨cs, rfl, hn, -⟩ := hv
  rw [hs] at hn
  obtain ⟨fuel, hf⟩ := hd
  have hcell : ∀ (i : Nat) (hi : i < cs.size), ∃ z, cs[i] = .int k z ∧ (Lit.int k z).wf = true := by
    cases fuel with
    | zero => simp [DataW.trod] at hf
    | succ m =>
      intro i hi
      rw [DataW.trod_step] at hf
      unfold DataW.trodStep at hf
      simp only [ht, Value.cells] at hf
      rw [if_pos (by rw [hs]; simpa using hn)] at hf
      simp only [Option.map_eq_some_iff] at hf
      obtain ⟨ys, hy, -⟩ := hf
      obtain ⟨y, hy⟩ := mapM_some hy i (by rw [List.mem_range]; omega)
      rw [h1, Nat.mul_one] at hy
      have e1 : (cs.toList.drop i).take 1 = [cs[i]] := by
        rw [List.drop_eq_getElem_cons (by simpa using hi)]
        simp
      rw [e1] at hy
      obtain ⟨z, hz, -, hw⟩ := DataW.trod_int he hy
      simp at hz
      exact ⟨z, hz, hw⟩
  refine ⟨cs.toList.map intOf, by simpa using hn, ?_, ?_⟩
  · intro z hz
    obtain ⟨u, hu, rfl⟩ := List.mem_map.1 hz
    obtain ⟨i, hi, rfl⟩ := List.mem_iff_getElem.1 hu
    obtain ⟨z, e, hw⟩ := hcell i (by simpa using hi)
    simp only [Array.getElem_toList, e]
    exact hw
  · congr 1
    apply Array.ext
    · simp
    · intro i h2 h3
      obtain ⟨z, e, hw⟩ := hcell i h2
      simp [e, intOf]
/-- Integers of 32 bits without a sign, as natural numbers. -/
theorem nats_u32 (zs : List Int) (h : ∀ z ∈ zs, (Lit.int .u32 z).wf = true) : ∃ s : List Nat, zs.map (Value.int .u32) = s.map (fun x : Nat => Value.int .u32 (x : Int)) ∧ ∀ x ∈ s, x < 4294967296 := by
  refine ⟨zs.map Int.toNat, ?_, ?_⟩
  · rw [List.map_map]
    refine List.map_congr_left fun z hz => ?_
    have := Go.bounds_u32 (h z hz)
    simp
    omega
  · intro x hx
    obtain ⟨z, hz, rfl⟩ := List.mem_map.1 hx
    have := Go.bounds_u32 (h z hz)
    omega
theorem nats_u8 (zs : List Int) (h : ∀ z ∈ zs, (Lit.int .u8 z).wf = true) : ∃ s : List UInt8, zs.map (Value.int .u8) = s.map bv := by
  refine ⟨zs.map fun z => UInt8.ofNat z.toNat, ?_⟩
  rw [List.map_map]
  refine List.map_congr_left fun z hz => ?_
  have := Go.bounds_u8 (h z hz)
  simp [bv]
  omega
end Go.Proofs.Ytoielghmgjdknaa
