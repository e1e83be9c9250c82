/-
  Package name: the digits of bytes.
-/
import Derived.Test.YtillnfjedjahnaaName2
import Derived.Laws.BytesString
import Derived.Laws.Cells
import Derived.IntWalk
import Derived.Deep.RegionHeld3
import Derived.Test.YtillnfjedjahnaaBlk2
namespace Go.Proofs.Ytillnfjedjahnaa
open Go.RowKit
set_option linter.unusedVariables false

theorem push_all (l : List UInt8) (s : ByteArray) : bl ((l.map (fun x : UInt8 => (x.toNat : Int))).foldl (fun r n => r.push (UInt8.ofNat n.toNat)) s) = bl s ++ l := by
  induction l generalizing s with
  | nil => simp
  | cons x l ih =>
    rw [List.map_cons, List.foldl_cons, ih]
    have : bl (s.push (UInt8.ofNat ((x.toNat : Int)).toNat)) = bl s ++ [x] := by
      unfold bl
      simp [ByteArray.push]
    rw [this, List.append_assoc]
    rfl
/-- string(b) -/
theorem run_string (w : World) (src dst e : TypeId) {P : Program} (A : Option Addr) (n c : Nat) (l : List UInt8) (B : Nat) (hs : P.underlying src = some (.slice e)) (he : P.underlying e = some (.int .u8)) (hd : P.underlying dst = some .string)
    (hn : l.length = n) (hv : Bs w B A l) : ∃ s : ByteArray, (convert src dst (.slice A n c)).run P w = .ok (.string s) w ∧ bl s = l := by
  subst hn
  rw [run_convert_bytes_string w src dst e A _ c hs he hd]
  rcases Nat.eq_zero_or_pos l.length with h0 | h0
  · obtain rfl := List.eq_nil_of_length_eq_zero h0
    refine ⟨ByteArray.empty, ?_, rfl⟩
    cases A <;> simp [Conv.bytesToString, loadCells, loadCellsFrom, Sem.run_pure]
  · obtain ⟨b, o, rfl, _, hc⟩ := hv.at_ h0
    refine ⟨_, run_bytesToString w ⟨b, o, none⟩ l.length c (l.map fun x => (x.toNat : Int)) ?_, by rw [push_all]; rfl⟩
    have := run_loadCells_list (P := P) (w := w) ⟨b, o, none⟩ (l.map bv) (fun j v hj => by
      obtain ⟨h1, rfl⟩ := List.getElem?_eq_some_iff.1 hj
      have e : ({ block := b, off := o, spot := none } : Addr).add j = ⟨b, o + j, none⟩ := by unfold Addr.add; split <;> simp_all
      rw [e, hc j (by simpa using h1), List.getElem_map]
      rfl)
    rw [List.length_map] at this
    rw [this, List.map_map]
    rfl
theorem hexc_at (i : Nat) (h : i < 16) : (⟨#[48, 49, 50, 51, 52, 53, 54, 55, 56, 57, 97, 98, 99, 100, 101, 102]⟩ : ByteArray)[i]'h = hexD i := by
  have all : ∀ j : Fin 16, (⟨#[48, 49, 50, 51, 52, 53, 54, 55, 56, 57, 97, 98, 99, 100, 101, 102]⟩ : ByteArray)[j.val]'j.isLt = hexD j.val := by decide
  exact all ⟨i, h⟩
/-- A text is answered; memory is the call's own. -/
def SaysB (l : List UInt8) (w : World) (x : Ending) (w' : World) : Prop := ∃ s : ByteArray, x = .returned (.string s) ∧ bl s = l ∧ Below w.heap.size w w'

theorem hexc_run (W : World) (p : Nat) (hp : p < 16) : (Instr.index 9 (.string ⟨#[48, 49, 50, 51, 52, 53, 54, 55, 56, 57, 97, 98, 99, 100, 101, 102]⟩) (.int .u8 (p : Int))).run Try.prog W = .ok (.int .u8 ((hexD p).toNat : Int)) W := by
  have hi : (0 : Int) ≤ (p : Int) ∧ (p : Int) < (((⟨#[48, 49, 50, 51, 52, 53, 54, 55, 56, 57, 97, 98, 99, 100, 101, 102]⟩ : ByteArray).size : Nat) : Int) := ⟨by omega, by show (p : Int) < 16; omega⟩
  rw [run_index_string _ _ _ _ _ Try.underlying9, dif_pos hi]
  simp only [Int.toNat_natCast]
  rw [hexc_at p hp]
theorem and15 (x : Nat) (h : x < 256) : bits .and .u8 (x : Int) 15 = ((x % 16 : Nat) : Int) := by
  have all : ∀ a : Fin 256, bits .and .u8 (a.val : Int) 15 = ((a.val % 16 : Nat) : Int) := by decide +kernel
  exact all ⟨x, h⟩
end Go.Proofs.Ytillnfjedjahnaa
