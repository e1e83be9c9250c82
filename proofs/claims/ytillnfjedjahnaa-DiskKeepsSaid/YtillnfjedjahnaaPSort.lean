/-
  Files by rising names: one that is put in the place of another; names in order; sums over what has come.
-/
import Derived.Test.YtillnfjedjahnaaPMap2
import Derived.Maps.Ext
namespace Go.Proofs.Ytillnfjedjahnaa
open Go.RowKit
set_option linter.unusedVariables false

def RisingP (L : List Pil) : Prop := L.Pairwise fun f g => (Lit.string (bl f.name)).before (.string (bl g.name)) = true
theorem PMapIs.rising {w : World} {b : Nat} {L : List Pil} (h : PMapIs w b L) : RisingP L := by
  obtain ⟨es, he, hp, _⟩ := World.ownsMap.canon h strKeyedP
  have e : L.map entP = es := by
    unfold DP at he
    injection he
  rw [← e, List.pairwise_map] at hp
  exact hp
theorem before_neP {a b : List UInt8} (h : (Lit.string a).before (.string b) = true) : a ≠ b := by
  rintro rfl
  rw [Go.WideShapes.before_irrefl] at h
  cases h
theorem before_asymmP {a b : List UInt8} (h : (Lit.string a).before (.string b) = true) : (Lit.string b).before (.string a) = false := by
  cases hb : (Lit.string b).before (.string a) with
  | false => rfl
  | true =>
    have := Go.WideShapes.before_trans h hb
    rw [Go.WideShapes.before_irrefl] at this
    cases this
theorem dropPil_self {nm : List UInt8} {L : List Pil} (h : ∀ g ∈ L, bl g.name ≠ nm) : dropPil nm L = L := by
  unfold dropPil
  rw [List.filter_eq_self]
  intro g hg
  simpa using h g hg
/-- A file that is put in the place of another one of its name. -/
theorem putPil_there (g : Pil) : ∀ {L : List Pil}, RisingP L → (∃ f ∈ L, bl f.name = bl g.name) → putPil g L = L.map fun x => if bl x.name = bl g.name then g else x
  | [], _, ⟨f, hf, _⟩ => by cases hf
  | x :: r, h, ⟨f, hf, hn⟩ => by
    obtain ⟨h1, h2⟩ := List.pairwise_cons.1 h
    by_cases e : bl x.name = bl g.name
    · have hne : ∀ y ∈ r, bl y.name ≠ bl g.name := fun y hy => by rw [← e]; exact (before_neP (h1 y hy)).symm
      have hd : dropPil (bl g.name) (x :: r) = r := by
        have : dropPil (bl g.name) (x :: r) = dropPil (bl g.name) r := by
          unfold dropPil
          rw [List.filter_cons, if_neg (by simp [e])]
        rw [this, dropPil_self hne]
      have hm : r.map (fun y => if bl y.name = bl g.name then g else y) = r := by
        conv => rhs; rw [← List.map_id r]
        refine List.map_congr_left fun y hy => ?_
        rw [if_neg (hne y hy)]
        rfl
      unfold putPil
      rw [hd, List.map_cons, if_pos e, hm]
      cases r with
      | nil => rfl
      | cons y s =>
        unfold insPil
        rw [if_pos (by rw [← e]; exact h1 y (List.mem_cons_self ..))]
    · have hfr : f ∈ r := by
        rcases List.mem_cons.1 hf with rfl | h'
        · exact absurd hn e
        · exact h'
      have ih := putPil_there g (L := r) h2 ⟨f, hfr, hn⟩
      have hd : dropPil (bl g.name) (x :: r) = x :: dropPil (bl g.name) r := by
        unfold dropPil
        rw [List.filter_cons, if_pos (by simpa using e)]
      have hb : (Lit.string (bl g.name)).before (.string (bl x.name)) = false := before_asymmP (by rw [← hn]; exact h1 f hfr)
      unfold putPil at ih ⊢
      rw [hd, List.map_cons, if_neg e]
      unfold insPil
      rw [if_neg (by rw [hb]; decide), ih]
theorem bytesBefore_leP : ∀ (a b : List UInt8), bytesBefore a b = true → a ≤ b
  | [], b, _ => List.nil_le b
  | a :: r, [], h => by simp [bytesBefore] at h
  | a :: r, b :: s, h => by
    unfold bytesBefore at h
    rw [Bool.or_eq_true, Bool.and_eq_true, decide_eq_true_iff, beq_iff_eq] at h
    rw [List.cons_le_cons_iff]
    rcases h with h | ⟨rfl, h⟩
    · exact .inl h
    · exact .inr ⟨rfl, bytesBefore_leP r s h⟩
/-- The names, sorted, are the names. -/
theorem names_sortedP {L : List Pil} (h : RisingP L) {ss : List (List UInt8)} (hp : ss.Perm (strKeys (DP L))) : ss.mergeSort (fun x y => decide (x ≤ y)) = L.map fun f => bl f.name := by
  have e : strKeys (DP L) = L.map fun f => bl f.name := by
    show (L.map entP).map (fun p => strOf p.1) = _
    rw [List.map_map]
    rfl
  rw [e] at hp
  rw [mergeSort_of_perm hp]
  refine List.mergeSort_of_pairwise ?_
  rw [List.pairwise_map]
  refine h.imp fun {a b} hab => ?_
  simp only [decide_eq_true_eq]
  exact bytesBefore_leP _ _ hab

/-! ### what has come of a map's files, and what is still to come -/
def leftNP (left : Lit → Bool) (f : Pil) : Bool := left (.string (bl f.name))
/-- How many bytes those have that have come. -/
def sumDP (left : Lit → Bool) (L : List Pil) : Nat := (L.map fun f => if leftNP left f then 0 else f.f.n).sum
theorem sumD_consP (left : Lit → Bool) (f : Pil) (L : List Pil) : sumDP left (f :: L) = (if leftNP left f then 0 else f.f.n) + sumDP left L := by unfold sumDP; simp
theorem leftN_stepP (left : Lit → Bool) (f g : Pil) : leftNP (fun z => left z && !z.sameKey (.string (bl f.name))) g = (leftNP left g && !(bl g.name == bl f.name)) := rfl
theorem sumD_otherP {left : Lit → Bool} {f : Pil} : ∀ {L : List Pil}, (∀ g ∈ L, bl g.name ≠ bl f.name) → sumDP (fun z => left z && !z.sameKey (.string (bl f.name))) L = sumDP left L
  | [], _ => rfl
  | g :: r, h => by
    rw [sumD_consP, sumD_consP, sumD_otherP (fun x hx => h x (List.mem_cons_of_mem _ hx)), leftN_stepP]
    have := h g (List.mem_cons_self ..)
    simp [this]
theorem sumD_stepP {left : Lit → Bool} {f : Pil} : ∀ {L : List Pil}, RisingP L → f ∈ L → leftNP left f = true → sumDP (fun z => left z && !z.sameKey (.string (bl f.name))) L = sumDP left L + f.f.n
  | [], _, h, _ => by cases h
  | g :: r, h, hf, hl => by
    obtain ⟨h1, h2⟩ := List.pairwise_cons.1 h
    rw [sumD_consP, sumD_consP, leftN_stepP]
    rcases List.mem_cons.1 hf with rfl | hf'
    · rw [sumD_otherP (fun x hx => (before_neP (h1 x hx)).symm), hl]
      simp
      omega
    · have hne : bl g.name ≠ bl f.name := before_neP (h1 f hf')
      rw [sumD_stepP h2 hf' hl]
      simp [hne]
      omega
theorem sumD_allP {left : Lit → Bool} (h : ∀ k, left k = false) (L : List Pil) : sumDP left L = (L.map fun f => f.f.n).sum := by
  unfold sumDP leftNP
  simp [h]
theorem sumD_noneP {left : Lit → Bool} : ∀ {L : List Pil}, (∀ f ∈ L, leftNP left f = true) → sumDP left L = 0
  | [], _ => rfl
  | g :: r, h => by rw [sumD_consP, sumD_noneP (fun x hx => h x (List.mem_cons_of_mem _ hx)), h g (List.mem_cons_self ..)]; simp
end Go.Proofs.Ytillnfjedjahnaa
