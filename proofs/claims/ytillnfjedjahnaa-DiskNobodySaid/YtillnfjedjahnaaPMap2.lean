/-
  A map of files in memory: found, put, taken away, counted.
-/
import Derived.Test.YtillnfjedjahnaaPMap
import Derived.Maps.OwnSet
import Derived.Maps.RangeWalk
import Derived.Sort.KeysCollected
namespace Go.Proofs.Ytillnfjedjahnaa
open Go.RowKit
set_option linter.unusedVariables false

theorem strKeyedP : Maps.Keyed Try.prog 9 := Maps.string_keyed Try.underlying9
theorem keyStrP (s : ByteArray) (h : s.size ≤ maxLen) : keyOf Try.prog 9 (.string s) = some (.string (bl s)) := Go.WideMaps.keyOf_string_mk Try.underlying9 h
def zeroPil : Value := .pointer none
theorem zeroPil_run (w : World) : (zeroValue 54).run Try.prog w = .ok zeroPil w := by
  obtain ⟨i, hi, hz, _, _⟩ := info_parts (P := Try.prog) (e := 54) (z := zeroPil) (size := 1) (bytes := 8) (by kernel_rfl)
  simp [zeroValue, typeInfo, hi, hz]
theorem gP_zero : gP zeroPil = some (.held zeroPil, []) := rfl
/-- Block b is a map of these files. -/
def PMapIs (w : World) (b : Nat) (L : List Pil) : Prop := w.ownsMap Try.prog 9 gP b L.length (DP L)
theorem PMapIs.lt {w : World} {b : Nat} {L : List Pil} (h : PMapIs w b L) : b < w.heap.size := World.ownsMap.lt h
theorem PMapIs.keep {w w' : World} {b : Nat} {L : List Pil} (h : PMapIs w b L) (hb : w'.heap[b]? = w.heap[b]?) : PMapIs w' b L := by
  obtain ⟨es, clock, h1, h2⟩ := h
  exact ⟨es, clock, hb.trans h1, h2⟩
theorem PMapIs.tight {w : World} {b n : Nat} {L : List Pil} (h : w.ownsMap Try.prog 9 gP b n (DP L)) : PMapIs w b L := by
  obtain ⟨es, clock, h1, h2, _, h4⟩ := h
  refine ⟨es, clock, h1, h2, ?_, h4⟩
  have := congrArg Maps.size h4
  rw [size_DP] at this
  simp [Maps.size, length_sorted] at this
  omega
theorem PMapIs.made (w : World) : PMapIs (w.alloc (.map #[] 0)) w.heap.size [] := World.ownsMap_made w _ _ _
/-- What is found at a name. -/
theorem PMapIs.look {w : World} {b : Nat} {L : List Pil} (h : PMapIs w b L) (s : ByteArray) (hs : s.size ≤ maxLen) :
    (Instr.lookup 49 (.map (some b)) (.string s) true).run Try.prog w = .ok (.tuple #[(findPil (bl s) L).elim zeroPil Pil.val, .bool (findPil (bl s) L).isSome]) w := by
  obtain ⟨v, ps, hrun, hv⟩ := World.ownsMap.look_ok h strKeyedP Try.underlying49 (zeroPil_run w) (zd := .held zeroPil) (zp := []) gP_zero (keyStrP s hs)
  rw [has_DP] at hrun
  rw [hrun]
  have e : v = (findPil (bl s) L).elim zeroPil Pil.val := by
    have := congrArg (Option.map Prod.fst) hv
    rw [atKey_DP] at this
    have h2 := gP_held v _ hv
    rw [atKey_DP] at h2
    cases hf : findPil (bl s) L with
    | none => rw [hf] at h2; simp at h2; exact h2.1.symm
    | some f => rw [hf] at h2; simp at h2; exact h2.1.symm
  rw [e]
theorem PMapIs.look1 {w : World} {b : Nat} {L : List Pil} (h : PMapIs w b L) (s : ByteArray) (hs : s.size ≤ maxLen) :
    (Instr.lookup 49 (.map (some b)) (.string s) false).run Try.prog w = .ok ((findPil (bl s) L).elim zeroPil Pil.val) w := by
  obtain ⟨v, ps, hrun, hv⟩ := World.ownsMap.lookup h strKeyedP Try.underlying49 (zeroPil_run w) (zd := .held zeroPil) (zp := []) gP_zero (keyStrP s hs)
  rw [hrun]
  have e : v = (findPil (bl s) L).elim zeroPil Pil.val := by
    have := congrArg (Option.map Prod.fst) hv
    rw [atKey_DP] at this
    have h2 := gP_held v _ hv
    rw [atKey_DP] at h2
    cases hf : findPil (bl s) L with
    | none => rw [hf] at h2; simp at h2; exact h2.1.symm
    | some f => rw [hf] at h2; simp at h2; exact h2.1.symm
  rw [e]
/-- A file is put. -/
theorem PMapIs.put {w : World} {b : Nat} {L : List Pil} (h : PMapIs w b L) (f : Pil) (hs : f.name.size ≤ maxLen) (hl : L.length < maxLen) :
    ∃ w', (Instr.mapUpdate 49 (.map (some b)) (.string f.name) f.val).run Try.prog w = .ok () w' ∧ PMapIs w' b (putPil f L) ∧ w.grownBy w' (some b) := by
  obtain ⟨w', hrun, h1, h2⟩ := World.ownsMap.update h strKeyedP Try.underlying49 hl (keyStrP f.name hs) (val := f.val) (d := .held f.val) (ps := []) (gP_val f)
  rw [put_DP] at h1
  exact ⟨w', hrun, PMapIs.tight h1, h2⟩
/-- A file is taken away. -/
theorem PMapIs.drop {w : World} {b : Nat} {L : List Pil} (h : PMapIs w b L) (s : ByteArray) (hs : s.size ≤ maxLen) (ty : TypeId) :
    ∃ w', (Builtin.delete_ #[49, 9] ty #[.map (some b), .string s]).run Try.prog w = .ok (.tuple #[]) w' ∧ PMapIs w' b (dropPil (bl s) L) ∧ w.grownBy w' (some b) := by
  obtain ⟨w', hrun, h1, h2⟩ := World.ownsMap.drop h strKeyedP Try.underlying49 (keyStrP s hs) ty
  rw [del_DP] at h1
  exact ⟨w', hrun, PMapIs.tight h1, h2.grown⟩
theorem PMapIs.len {w : World} {b : Nat} {L : List Pil} (h : PMapIs w b L) (ty : TypeId) : (Builtin.len_ #[49] ty #[.map (some b)]).run Try.prog w = .ok (.int .i64 (L.length : Int)) w := by
  have := World.ownsMap.len h Try.underlying49 ty
  rw [size_DP] at this
  exact this
end Go.Proofs.Ytillnfjedjahnaa
