/-
  Pointers to files in a map: what the map reads as, and what is put, taken away and found.
-/
import Derived.Test.YtillnfjedjahnaaDisk1
import Derived.Maps.Views
namespace Go.Proofs.Ytillnfjedjahnaa
open Go.RowKit
set_option linter.unusedVariables false

/-- A file, and the block of its cells. -/
structure Pil where
  f : Fil
  p : Nat
def Pil.name (x : Pil) : ByteArray := x.f.name
def Pil.pf (x : Pil) : PF := x.f.pf
def Pil.val (x : Pil) : Value := .pointer (some ⟨x.p, 0, none⟩)
/-- Is it a pointer to a whole block, or to none? -/
def pilOf : Value → Option (Option Nat)
  | .pointer none => some none
  | .pointer (some ⟨p, 0, none⟩) => some (some p)
  | _ => none
/-- An element of a map, read as just itself. -/
def gP (v : Value) : Option (DataW Value × List MemPlace) := (pilOf v).map fun _ => (.held v, [])
theorem gP_val (x : Pil) : gP x.val = some (.held x.val, []) := rfl
theorem gP_inv (v : Value) (y : DataW Value × List MemPlace) (h : gP v = some y) : ∃ o : Option Nat, v = .pointer (o.map fun p => ⟨p, 0, none⟩) := by
  unfold gP pilOf at h
  split at h
  · exact ⟨none, rfl⟩
  · exact ⟨some _, rfl⟩
  · cases h
theorem gP_held (v : Value) (y : DataW Value × List MemPlace) (h : gP v = some y) : y = (.held v, []) := by
  unfold gP at h
  obtain ⟨f, _, e⟩ := Option.map_eq_some_iff.1 h
  exact e.symm
def entP (f : Pil) : Lit × DataW Value := (.string (bl f.name), .held f.val)
/-- What a map of these files reads as. -/
def DP (L : List Pil) : DataW Value := .map (L.map entP)
def insPil (f : Pil) : List Pil → List Pil
  | [] => [f]
  | g :: r => if (Lit.string (bl f.name)).before (.string (bl g.name)) then f :: g :: r else g :: insPil f r
def dropPil (nm : List UInt8) (L : List Pil) : List Pil := L.filter fun g => !(bl g.name == nm)
def putPil (f : Pil) (L : List Pil) : List Pil := insPil f (dropPil (bl f.name) L)
def findPil (nm : List UInt8) (L : List Pil) : Option Pil := L.find? fun g => bl g.name == nm

theorem insPil_ent (f : Pil) : ∀ L : List Pil, DataW.insert (entP f) (L.map entP) = (insPil f L).map entP
  | [] => rfl
  | g :: r => by
    show (if (entP f).1.before (entP g).1 then _ else _) = _
    unfold insPil
    show (if (Lit.string (bl f.name)).before (.string (bl g.name)) then _ else _) = _
    split
    · rfl
    · rw [insPil_ent f r, List.map_cons]
theorem dropPil_ent (nm : List UInt8) (L : List Pil) : (L.map entP).filter (fun p => !p.1.sameKey (.string nm)) = (dropPil nm L).map entP := by
  unfold dropPil
  rw [List.filter_map]
  rfl
theorem put_DP (f : Pil) (L : List Pil) : (DP L).put (.string (bl f.name)) (.held f.val) = DP (putPil f L) := by
  show DataW.map (DataW.insert (entP f) ((L.map entP).filter fun p => !p.1.sameKey (.string (bl f.name)))) = _
  rw [dropPil_ent, insPil_ent]
  rfl
theorem del_DP (nm : List UInt8) (L : List Pil) : (DP L).del (.string nm) = DP (dropPil nm L) := by
  show DataW.map ((L.map entP).filter fun p => !p.1.sameKey (.string nm)) = _
  rw [dropPil_ent]
  rfl
theorem atKey_DP (nm : List UInt8) (z : DataW Value) (L : List Pil) : (DP L).atKey (.string nm) z = (findPil nm L).elim z fun f => .held f.val := by
  have h : (L.map entP).find? (fun p => p.1.sameKey (.string nm)) = (findPil nm L).map entP := by
    rw [List.find?_map]
    rfl
  unfold DP DataW.atKey
  simp only [h]
  cases findPil nm L <;> rfl
theorem has_DP (nm : List UInt8) (L : List Pil) : Maps.has (DP L) (.string nm) = (findPil nm L).isSome := by
  show (L.map entP).any (fun p => p.1.sameKey (.string nm)) = _
  rw [List.any_map]
  unfold findPil
  show L.any (fun g => bl g.name == nm) = _
  rw [Bool.eq_iff_iff]
  simp
theorem size_DP (L : List Pil) : Maps.size (DP L) = L.length := by
  show (L.map entP).length = _
  rw [List.length_map]

/-! ### as plain files -/
theorem insPil_pf (f : Pil) : ∀ L : List Pil, (insPil f L).map Pil.pf = insF f.pf (L.map Pil.pf)
  | [] => rfl
  | g :: r => by
    unfold insPil
    show _ = (if (Lit.string (bl f.name)).before (.string (bl g.name)) then _ else _)
    split
    · rfl
    · rw [List.map_cons, insPil_pf f r]
theorem dropPil_pf (nm : List UInt8) (L : List Pil) : (dropPil nm L).map Pil.pf = dropF nm (L.map Pil.pf) := by
  unfold dropPil dropF
  rw [List.filter_map]
  rfl
theorem putPil_pf (f : Pil) (L : List Pil) : (putPil f L).map Pil.pf = putF f.pf (L.map Pil.pf) := by
  unfold putPil putF
  rw [insPil_pf, dropPil_pf]
  rfl
theorem findPil_pf (nm : List UInt8) (L : List Pil) : (findPil nm L).map Pil.pf = findF nm (L.map Pil.pf) := by
  unfold findPil findF
  rw [List.find?_map]
  rfl
theorem mem_insPil {f g : Pil} : ∀ {L : List Pil}, g ∈ insPil f L ↔ g = f ∨ g ∈ L
  | [] => by simp [insPil]
  | h :: r => by
    unfold insPil
    split
    · simp
    · rw [List.mem_cons, List.mem_cons, mem_insPil (L := r)]
      constructor
      · rintro (h | h | h)
        · exact .inr (.inl h)
        · exact .inl h
        · exact .inr (.inr h)
      · rintro (h | h | h)
        · exact .inr (.inl h)
        · exact .inl h
        · exact .inr (.inr h)
theorem mem_dropPil {nm : List UInt8} {g : Pil} {L : List Pil} : g ∈ dropPil nm L ↔ g ∈ L ∧ bl g.name ≠ nm := by
  unfold dropPil
  rw [List.mem_filter]
  simp
theorem mem_putPil {f g : Pil} {L : List Pil} : g ∈ putPil f L ↔ g = f ∨ g ∈ L ∧ bl g.name ≠ bl f.name := by
  unfold putPil
  rw [mem_insPil, mem_dropPil]
theorem findPil_some {nm : List UInt8} {L : List Pil} {f : Pil} (h : findPil nm L = some f) : f ∈ L ∧ bl f.name = nm := by
  unfold findPil at h
  exact ⟨List.mem_of_find?_eq_some h, by simpa using List.find?_some h⟩
theorem len_insPil (f : Pil) : ∀ L : List Pil, (insPil f L).length = L.length + 1
  | [] => rfl
  | g :: r => by
    unfold insPil
    split
    · rfl
    · rw [List.length_cons, len_insPil f r, List.length_cons]
theorem len_putPil (f : Pil) (L : List Pil) : (putPil f L).length ≤ L.length + 1 := by
  unfold putPil
  rw [len_insPil]
  have := List.length_filter_le (fun g => !(bl g.name == bl f.name)) L
  unfold dropPil
  omega
end Go.Proofs.Ytillnfjedjahnaa
