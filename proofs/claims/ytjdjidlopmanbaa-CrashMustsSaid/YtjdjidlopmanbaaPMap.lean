/-
  Pointers to files in a map: what the map reads as, and what is put, taken away and found. A map of files in memory: found, put, taken away, counted. Files by rising names: one that is put in the place of another; names in order; sums over what has come.
-/
import Derived.Test.YtjdjidlopmanbaaDisk1
import Derived.Maps.Views
import Derived.Maps.OwnSet
import Derived.Maps.RangeWalk
import Derived.Sort.KeysCollected
import Derived.Maps.Ext
namespace Go.Proofs.Ytjdjidlopmanbaa
open Go.RowKit
set_option linter.unusedVariables false

/-- A file, and the block of its cells. -/
structure Pil where
  f : Fil
  p : Nat
def Pil.name (x : Pil) : ByteArray := x.f.name
def Pil.pf (x : Pil) : PF := x.f.pf
def Pil.val (x : Pil) : Value := .pointer (some ⟨x.p, 0, none⟩)
/-- Is it a pointer to a whole block, or to none? -/
def pilOf : Value → Option (Option Nat)
  | .pointer none => some none
  | .pointer (some ⟨p, 0, none⟩) => some (some p)
  | _ => none
/-- An element of a map, read as just itself. -/
def gP (v : Value) : Option (DataW Value × List MemPlace) := (pilOf v).map fun _ => (.held v, [])
theorem gP_val (x : Pil) : gP x.val = some (.held x.val, []) := rfl
theorem gP_inv (v : Value) (y : DataW Value × List MemPlace) (h : gP v = some y) : ∃ o : Option Nat, v = .pointer (o.map fun p => ⟨p, 0, none⟩) := by
  unfold gP pilOf at h
  split at h
  · exact ⟨none, rfl⟩
  · exact ⟨some _, rfl⟩
  · cases h
theorem gP_held (v : Value) (y : DataW Value × List MemPlace) (h : gP v = some y) : y = (.held v, []) := by
  unfold gP at h
  obtain ⟨f, _, e⟩ := Option.map_eq_some_iff.1 h
  exact e.symm
def entP (f : Pil) : Lit × DataW Value := (.string (bl f.name), .held f.val)
/-- What a map of these files reads as. -/
def DP (L : List Pil) : DataW Value := .map (L.map entP)
def insPil (f : Pil) : List Pil → List Pil
  | [] => [f]
  | g :: r => if (Lit.string (bl f.name)).before (.string (bl g.name)) then f :: g :: r else g :: insPil f r
def dropPil (nm : List UInt8) (L : List Pil) : List Pil := L.filter fun g => !(bl g.name == nm)
def putPil (f : Pil) (L : List Pil) : List Pil := insPil f (dropPil (bl f.name) L)
def findPil (nm : List UInt8) (L : List Pil) : Option Pil := L.find? fun g => bl g.name == nm

theorem insPil_ent (f : Pil) : ∀ L : List Pil, DataW.insert (entP f) (L.map entP) = (insPil f L).map entP
  | [] => rfl
  | g :: r => by
    show (if (entP f).1.before (entP g).1 then _ else _) = _
    unfold insPil
    show (if (Lit.string (bl f.name)).before (.string (bl g.name)) then _ else _) = _
    split
    · rfl
    · rw [insPil_ent f r, List.map_cons]
theorem dropPil_ent (nm : List UInt8) (L : List Pil) : (L.map entP).filter (fun p => !p.1.sameKey (.string nm)) = (dropPil nm L).map entP := by
  unfold dropPil
  rw [List.filter_map]
  rfl
theorem put_DP (f : Pil) (L : List Pil) : (DP L).put (.string (bl f.name)) (.held f.val) = DP (putPil f L) := by
  show DataW.map (DataW.insert (entP f) ((L.map entP).filter fun p => !p.1.sameKey (.string (bl f.name)))) = _
  rw [dropPil_ent, insPil_ent]
  rfl
theorem del_DP (nm : List UInt8) (L : List Pil) : (DP L).del (.string nm) = DP (dropPil nm L) := by
  show DataW.map ((L.map entP).filter fun p => !p.1.sameKey (.string nm)) = _
  rw [dropPil_ent]
  rfl
theorem atKey_DP (nm : List UInt8) (z : DataW Value) (L : List Pil) : (DP L).atKey (.string nm) z = (findPil nm L).elim z fun f => .held f.val := by
  have h : (L.map entP).find? (fun p => p.1.sameKey (.string nm)) = (findPil nm L).map entP := by
    rw [List.find?_map]
    rfl
  unfold DP DataW.atKey
  simp only [h]
  cases findPil nm L <;> rfl
theorem has_DP (nm : List UInt8) (L : List Pil) : Maps.has (DP L) (.string nm) = (findPil nm L).isSome := by
  show (L.map entP).any (fun p => p.1.sameKey (.string nm)) = _
  rw [List.any_map]
  unfold findPil
  show L.any (fun g => bl g.name == nm) = _
  rw [Bool.eq_iff_iff]
  simp
theorem size_DP (L : List Pil) : Maps.size (DP L) = L.length := by
  show (L.map entP).length = _
  rw [List.length_map]

/-! ### as plain files -/
theorem insPil_pf (f : Pil) : ∀ L : List Pil, (insPil f L).map Pil.pf = insF f.pf (L.map Pil.pf)
  | [] => rfl
  | g :: r => by
    unfold insPil
    show _ = (if (Lit.string (bl f.name)).before (.string (bl g.name)) then _ else _)
    split
    · rfl
    · rw [List.map_cons, insPil_pf f r]
theorem dropPil_pf (nm : List UInt8) (L : List Pil) : (dropPil nm L).map Pil.pf = dropF nm (L.map Pil.pf) := by
  unfold dropPil dropF
  rw [List.filter_map]
  rfl
theorem putPil_pf (f : Pil) (L : List Pil) : (putPil f L).map Pil.pf = putF f.pf (L.map Pil.pf) := by
  unfold putPil putF
  rw [insPil_pf, dropPil_pf]
  rfl
theorem findPil_pf (nm : List UInt8) (L : List Pil) : (findPil nm L).map Pil.pf = findF nm (L.map Pil.pf) := by
  unfold findPil findF
  rw [List.find?_map]
  rfl
theorem mem_insPil {f g : Pil} : ∀ {L : List Pil}, g ∈ insPil f L ↔ g = f ∨ g ∈ L
  | [] => by simp [insPil]
  | h :: r => by
    unfold insPil
    split
    · simp
    · rw [List.mem_cons, List.mem_cons, mem_insPil (L := r)]
      constructor
      · rintro (h | h | h)
        · exact .inr (.inl h)
        · exact .inl h
        · exact .inr (.inr h)
      · rintro (h | h | h)
        · exact .inr (.inl h)
        · exact .inl h
        · exact .inr (.inr h)
theorem mem_dropPil {nm : List UInt8} {g : Pil} {L : List Pil} : g ∈ dropPil nm L ↔ g ∈ L ∧ bl g.name ≠ nm := by
  unfold dropPil
  rw [List.mem_filter]
  simp
theorem mem_putPil {f g : Pil} {L : List Pil} : g ∈ putPil f L ↔ g = f ∨ g ∈ L ∧ bl g.name ≠ bl f.name := by
  unfold putPil
  rw [mem_insPil, mem_dropPil]
theorem findPil_some {nm : List UInt8} {L : List Pil} {f : Pil} (h : findPil nm L = some f) : f ∈ L ∧ bl f.name = nm := by
  unfold findPil at h
  exact ⟨List.mem_of_find?_eq_some h, by simpa using List.find?_some h⟩
theorem len_insPil (f : Pil) : ∀ L : List Pil, (insPil f L).length = L.length + 1
  | [] => rfl
  | g :: r => by
    unfold insPil
    split
    · rfl
    · rw [List.length_cons, len_insPil f r, List.length_cons]
theorem len_putPil (f : Pil) (L : List Pil) : (putPil f L).length ≤ L.length + 1 := by
  unfold putPil
  rw [len_insPil]
  have := List.length_filter_le (fun g => !(bl g.name == bl f.name)) L
  unfold dropPil
  omega
end Go.Proofs.Ytjdjidlopmanbaa

namespace Go.Proofs.Ytjdjidlopmanbaa
open Go.RowKit
set_option linter.unusedVariables false

theorem strKeyedP : Maps.Keyed Try.prog 9 := Maps.string_keyed Try.underlying9
theorem keyStrP (s : ByteArray) (h : s.size ≤ maxLen) : keyOf Try.prog 9 (.string s) = some (.string (bl s)) := Go.WideMaps.keyOf_string_mk Try.underlying9 h
def zeroPil : Value := .pointer none
theorem zeroPil_run (w : World) : (zeroValue 72).run Try.prog w = .ok zeroPil w := by
  obtain ⟨i, hi, hz, _, _⟩ := info_parts (P := Try.prog) (e := 72) (z := zeroPil) (size := 1) (bytes := 8) (by kernel_rfl)
  simp [zeroValue, typeInfo, hi, hz]
theorem gP_zero : gP zeroPil = some (.held zeroPil, []) := rfl
/-- Block b is a map of these files. -/
def PMapIs (w : World) (b : Nat) (L : List Pil) : Prop := w.ownsMap Try.prog 9 gP b L.length (DP L)
theorem PMapIs.lt {w : World} {b : Nat} {L : List Pil} (h : PMapIs w b L) : b < w.heap.size := World.ownsMap.lt h
theorem PMapIs.keep {w w' : World} {b : Nat} {L : List Pil} (h : PMapIs w b L) (hb : w'.heap[b]? = w.heap[b]?) : PMapIs w' b L := by
  obtain ⟨es, clock, h1, h2⟩ := h
  exact ⟨es, clock, hb.trans h1, h2⟩
theorem PMapIs.tight {w : World} {b n : Nat} {L : List Pil} (h : w.ownsMap Try.prog 9 gP b n (DP L)) : PMapIs w b L := by
  obtain ⟨es, clock, h1, h2, _, h4⟩ := h
  refine ⟨es, clock, h1, h2, ?_, h4⟩
  have := congrArg Maps.size h4
  rw [size_DP] at this
  simp [Maps.size, length_sorted] at this
  omega
theorem PMapIs.made (w : World) : PMapIs (w.alloc (.map #[] 0)) w.heap.size [] := World.ownsMap_made w _ _ _
/-- What is found at a name. -/
theorem PMapIs.look {w : World} {b : Nat} {L : List Pil} (h : PMapIs w b L) (s : ByteArray) (hs : s.size ≤ maxLen) :
    (Instr.lookup 59 (.map (some b)) (.string s) true).run Try.prog w = .ok (.tuple #[(findPil (bl s) L).elim zeroPil Pil.val, .bool (findPil (bl s) L).isSome]) w := by
  obtain ⟨v, ps, hrun, hv⟩ := World.ownsMap.look_ok h strKeyedP Try.underlying59 (zeroPil_run w) (zd := .held zeroPil) (zp := []) gP_zero (keyStrP s hs)
  rw [has_DP] at hrun
  rw [hrun]
  have e : v = (findPil (bl s) L).elim zeroPil Pil.val := by
    have := congrArg (Option.map Prod.fst) hv
    rw [atKey_DP] at this
    have h2 := gP_held v _ hv
    rw [atKey_DP] at h2
    cases hf : findPil (bl s) L with
    | none => rw [hf] at h2; simp at h2; exact h2.1.symm
    | some f => rw [hf] at h2; simp at h2; exact h2.1.symm
  rw [e]
theorem PMapIs.look1 {w : World} {b : Nat} {L : List Pil} (h : PMapIs w b L) (s : ByteArray) (hs : s.size ≤ maxLen) :
    (Instr.lookup 59 (.map (some b)) (.string s) false).run Try.prog w = .ok ((findPil (bl s) L).elim zeroPil Pil.val) w := by
  obtain ⟨v, ps, hrun, hv⟩ := World.ownsMap.lookup h strKeyedP Try.underlying59 (zeroPil_run w) (zd := .held zeroPil) (zp := []) gP_zero (keyStrP s hs)
  rw [hrun]
  have e : v = (findPil (bl s) L).elim zeroPil Pil.val := by
    have := congrArg (Option.map Prod.fst) hv
    rw [atKey_DP] at this
    have h2 := gP_held v _ hv
    rw [atKey_DP] at h2
    cases hf : findPil (bl s) L with
    | none => rw [hf] at h2; simp at h2; exact h2.1.symm
    | some f => rw [hf] at h2; simp at h2; exact h2.1.symm
  rw [e]
/-- A file is put. -/
theorem PMapIs.put {w : World} {b : Nat} {L : List Pil} (h : PMapIs w b L) (f : Pil) (hs : f.name.size ≤ maxLen) (hl : L.length < maxLen) :
    ∃ w', (Instr.mapUpdate 59 (.map (some b)) (.string f.name) f.val).run Try.prog w = .ok () w' ∧ PMapIs w' b (putPil f L) ∧ w.grownBy w' (some b) := by
  obtain ⟨w', hrun, h1, h2⟩ := World.ownsMap.update h strKeyedP Try.underlying59 hl (keyStrP f.name hs) (val := f.val) (d := .held f.val) (ps := []) (gP_val f)
  rw [put_DP] at h1
  exact ⟨w', hrun, PMapIs.tight h1, h2⟩
/-- A file is taken away. -/
theorem PMapIs.drop {w : World} {b : Nat} {L : List Pil} (h : PMapIs w b L) (s : ByteArray) (hs : s.size ≤ maxLen) (ty : TypeId) :
    ∃ w', (Builtin.delete_ #[59, 9] ty #[.map (some b), .string s]).run Try.prog w = .ok (.tuple #[]) w' ∧ PMapIs w' b (dropPil (bl s) L) ∧ w.grownBy w' (some b) := by
  obtain ⟨w', hrun, h1, h2⟩ := World.ownsMap.drop h strKeyedP Try.underlying59 (keyStrP s hs) ty
  rw [del_DP] at h1
  exact ⟨w', hrun, PMapIs.tight h1, h2.grown⟩
theorem PMapIs.len {w : World} {b : Nat} {L : List Pil} (h : PMapIs w b L) (ty : TypeId) : (Builtin.len_ #[59] ty #[.map (some b)]).run Try.prog w = .ok (.int .i64 (L.length : Int)) w := by
  have := World.ownsMap.len h Try.underlying59 ty
  rw [size_DP] at this
  exact this
end Go.Proofs.Ytjdjidlopmanbaa

namespace Go.Proofs.Ytjdjidlopmanbaa
open Go.RowKit
set_option linter.unusedVariables false

def RisingP (L : List Pil) : Prop := L.Pairwise fun f g => (Lit.string (bl f.name)).before (.string (bl g.name)) = true
theorem PMapIs.rising {w : World} {b : Nat} {L : List Pil} (h : PMapIs w b L) : RisingP L := by
  obtain ⟨es, he, hp, _⟩ := World.ownsMap.canon h strKeyedP
  have e : L.map entP = es := by
    unfold DP at he
    injection he
  rw [← e, List.pairwise_map] at hp
  exact hp
theorem before_neP {a b : List UInt8} (h : (Lit.string a).before (.string b) = true) : a ≠ b := by
  rintro rfl
  rw [Go.WideShapes.before_irrefl] at h
  cases h
theorem before_asymmP {a b : List UInt8} (h : (Lit.string a).before (.string b) = true) : (Lit.string b).before (.string a) = false := by
  cases hb : (Lit.string b).before (.string a) with
  | false => rfl
  | true =>
    have := Go.WideShapes.before_trans h hb
    rw [Go.WideShapes.before_irrefl] at this
    cases this
theorem dropPil_self {nm : List UInt8} {L : List Pil} (h : ∀ g ∈ L, bl g.name ≠ nm) : dropPil nm L = L := by
  unfold dropPil
  rw [List.filter_eq_self]
  intro g hg
  simpa using h g hg
/-- A file that is put in the place of another one of its name. -/
theorem putPil_there (g : Pil) : ∀ {L : List Pil}, RisingP L → (∃ f ∈ L, bl f.name = bl g.name) → putPil g L = L.map fun x => if bl x.name = bl g.name then g else x
  | [], _, ⟨f, hf, _⟩ => by cases hf
  | x :: r, h, ⟨f, hf, hn⟩ => by
    obtain ⟨h1, h2⟩ := List.pairwise_cons.1 h
    by_cases e : bl x.name = bl g.name
    · have hne : ∀ y ∈ r, bl y.name ≠ bl g.name := fun y hy => by rw [← e]; exact (before_neP (h1 y hy)).symm
      have hd : dropPil (bl g.name) (x :: r) = r := by
        have : dropPil (bl g.name) (x :: r) = dropPil (bl g.name) r := by
          unfold dropPil
          rw [List.filter_cons, if_neg (by simp [e])]
        rw [this, dropPil_self hne]
      have hm : r.map (fun y => if bl y.name = bl g.name then g else y) = r := by
        conv => rhs; rw [← List.map_id r]
        refine List.map_congr_left fun y hy => ?_
        rw [if_neg (hne y hy)]
        rfl
      unfold putPil
      rw [hd, List.map_cons, if_pos e, hm]
      cases r with
      | nil => rfl
      | cons y s =>
        unfold insPil
        rw [if_pos (by rw [← e]; exact h1 y (List.mem_cons_self ..))]
    · have hfr : f ∈ r := by
        rcases List.mem_cons.1 hf with rfl | h'
        · exact absurd hn e
        · exact h'
      have ih := putPil_there g (L := r) h2 ⟨f, hfr, hn⟩
      have hd : dropPil (bl g.name) (x :: r) = x :: dropPil (bl g.name) r := by
        unfold dropPil
        rw [List.filter_cons, if_pos (by simpa using e)]
      have hb : (Lit.string (bl g.name)).before (.string (bl x.name)) = false := before_asymmP (by rw [← hn]; exact h1 f hfr)
      unfold putPil at ih ⊢
      rw [hd, List.map_cons, if_neg e]
      unfold insPil
      rw [if_neg (by rw [hb]; decide), ih]
theorem bytesBefore_leP : ∀ (a b : List UInt8), bytesBefore a b = true → a ≤ b
  | [], b, _ => List.nil_le b
  | a :: r, [], h => by simp [bytesBefore] at h
  | a :: r, b :: s, h => by
    unfold bytesBefore at h
    rw [Bool.or_eq_true, Bool.and_eq_true, decide_eq_true_iff, beq_iff_eq] at h
    rw [List.cons_le_cons_iff]
    rcases h with h | ⟨rfl, h⟩
    · exact .inl h
    · exact .inr ⟨rfl, bytesBefore_leP r s h⟩
/-- The names, sorted, are the names. -/
theorem names_sortedP {L : List Pil} (h : RisingP L) {ss : List (List UInt8)} (hp : ss.Perm (strKeys (DP L))) : ss.mergeSort (fun x y => decide (x ≤ y)) = L.map fun f => bl f.name := by
  have e : strKeys (DP L) = L.map fun f => bl f.name := by
    show (L.map entP).map (fun p => strOf p.1) = _
    rw [List.map_map]
    rfl
  rw [e] at hp
  rw [mergeSort_of_perm hp]
  refine List.mergeSort_of_pairwise ?_
  rw [List.pairwise_map]
  refine h.imp fun {a b} hab => ?_
  simp only [decide_eq_true_eq]
  exact bytesBefore_leP _ _ hab

/-! ### what has come of a map's files, and what is still to come -/
def leftNP (left : Lit → Bool) (f : Pil) : Bool := left (.string (bl f.name))
/-- How many bytes those have that have come. -/
def sumDP (left : Lit → Bool) (L : List Pil) : Nat := (L.map fun f => if leftNP left f then 0 else f.f.n).sum
theorem sumD_consP (left : Lit → Bool) (f : Pil) (L : List Pil) : sumDP left (f :: L) = (if leftNP left f then 0 else f.f.n) + sumDP left L := by unfold sumDP; simp
theorem leftN_stepP (left : Lit → Bool) (f g : Pil) : leftNP (fun z => left z && !z.sameKey (.string (bl f.name))) g = (leftNP left g && !(bl g.name == bl f.name)) := rfl
theorem sumD_otherP {left : Lit → Bool} {f : Pil} : ∀ {L : List Pil}, (∀ g ∈ L, bl g.name ≠ bl f.name) → sumDP (fun z => left z && !z.sameKey (.string (bl f.name))) L = sumDP left L
  | [], _ => rfl
  | g :: r, h => by
    rw [sumD_consP, sumD_consP, sumD_otherP (fun x hx => h x (List.mem_cons_of_mem _ hx)), leftN_stepP]
    have := h g (List.mem_cons_self ..)
    simp [this]
theorem sumD_stepP {left : Lit → Bool} {f : Pil} : ∀ {L : List Pil}, RisingP L → f ∈ L → leftNP left f = true → sumDP (fun z => left z && !z.sameKey (.string (bl f.name))) L = sumDP left L + f.f.n
  | [], _, h, _ => by cases h
  | g :: r, h, hf, hl => by
    obtain ⟨h1, h2⟩ := List.pairwise_cons.1 h
    rw [sumD_consP, sumD_consP, leftN_stepP]
    rcases List.mem_cons.1 hf with rfl | hf'
    · rw [sumD_otherP (fun x hx => (before_neP (h1 x hx)).symm), hl]
      simp
      omega
    · have hne : bl g.name ≠ bl f.name := before_neP (h1 f hf')
      rw [sumD_stepP h2 hf' hl]
      simp [hne]
      omega
theorem sumD_allP {left : Lit → Bool} (h : ∀ k, left k = false) (L : List Pil) : sumDP left L = (L.map fun f => f.f.n).sum := by
  unfold sumDP leftNP
  simp [h]
theorem sumD_noneP {left : Lit → Bool} : ∀ {L : List Pil}, (∀ f ∈ L, leftNP left f = true) → sumDP left L = 0
  | [], _ => rfl
  | g :: r, h => by rw [sumD_consP, sumD_noneP (fun x hx => h x (List.mem_cons_of_mem _ hx)), h g (List.mem_cons_self ..)]; simp
end Go.Proofs.Ytjdjidlopmanbaa
