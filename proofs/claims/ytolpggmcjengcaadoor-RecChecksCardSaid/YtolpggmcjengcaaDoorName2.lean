/-
  Package name: tenants' names; bytes of digits.
-/
import Derived.Test.YtolpggmcjengcaaDoorName1
import Derived.Test.YtolpggmcjengcaaDoorHexN
import Derived.Test.YtolpggmcjengcaaDoorBlk
import Derived.Test.YtolpggmcjengcaaDoorRef01
import Derived.Lib.OthersKept
import Derived.StillTailTactics
namespace Go.Proofs.YtolpggmcjengcaaDoor
open Go.RowKit
set_option linter.unusedVariables false

theorem iter_below (w : World) (s : ByteArray) (pos : Nat) : Below w.heap.size w (w.iter s pos) := (Below.refl _ _).alloc (Nat.le_refl _) _

/-- Whether a text may be a tenant's name. -/
def tenantL (l : List UInt8) : Bool := decide (l.length ≤ 16) && madeL isLetter inTen l
theorem inTen_high (r : Nat) (h : 128 ≤ r) : inTen r = false := by
  unfold inTen isLetter isDigit
  rw [decide_eq_false (by omega), decide_eq_false (by omega), decide_eq_false (by omega)]
  rfl
theorem isHexd_high (r : Nat) (h : 128 ≤ r) : isHexd r = false := by
  unfold isHexd isDigit
  rw [decide_eq_false (by omega), decide_eq_false (by omega)]
  rfl
theorem isDigit_high (r : Nat) (h : 128 ≤ r) : isDigit r = false := by
  unfold isDigit
  rw [decide_eq_false (by omega)]
theorem tenant_any (s : ByteArray) (w : World) (hs : s.size ≤ maxLen) : Calls Tryd.prog 16 #[.string s] w fun e w' => e = .returned (.bool (tenantL (bl s))) ∧ Below w.heap.size w w' := by
  have HC := Lib.hid (fun W => made_any 31 32 isLetter inTen letter_any inTenant_any (enters_of Tryd.func31 (by kernel_rfl) rfl) (enters_of Tryd.func32 (by kernel_rfl) rfl) inTen_high s W hs)
  have hF : tenantL (bl s) = (decide (s.size ≤ 16) && madeL isLetter inTen (bl s)) := by unfold tenantL; rw [bl_length]
  obtain ⟨m, hm⟩ : ∃ m, madeL isLetter inTen (bl s) = m := ⟨_, rfl⟩
  rw [hm] at hF HC
  clear hm
  by_cases h : s.size ≤ 16
  · have HF : Hid (tenantL (bl s) = m) := by show _ = _; rw [hF, decide_eq_true h, Bool.true_and]
    have g1 : decide ((s.size : Int) ≤ 16) = true := by rw [decide_eq_true_iff]; omega
    clear hF h
    go_enter Tryd.func16, Tryd.ntmps16
    go_wp2_with fail
    refine (HC.out _).mono ?_
    rintro e' w1 ⟨rfl, pos, rfl⟩
    go_wp2_with fail
    go_ret
    exact ⟨by rw [HF.out]; rfl, iter_below _ _ _⟩
  · have HF : Hid (tenantL (bl s) = false) := by show _ = _; rw [hF, decide_eq_false h, Bool.false_and]
    have g1 : decide ((s.size : Int) ≤ 16) = false := by rw [decide_eq_false_iff_not]; omega
    clear hF h
    go_enter Tryd.func16, Tryd.ntmps16
    go_wp2_with fail
    go_ret
    exact ⟨by rw [HF.out]; rfl, Below.refl _ _⟩

/-! ### the bytes of which a text is the digits -/
def n8 (x : Nat) : Value := .int .u8 (x : Int)
theorem n8_set {w : World} {g : Nat} {t : TypeId} {os : List Nat} (h : Bk w g t (os.map n8)) (i v : Nat) : Bk (w.setCell ⟨g, i, none⟩ (.int .u8 (v : Int))) g t ((os.set i v).map n8) := by
  rw [List.map_set]
  exact h.set_ i (n8 v)
theorem n8_cell {w : World} {g : Nat} {t : TypeId} {os : List Nat} (h : Bk w g t (os.map n8)) (i : Nat) (hi : i < os.length) : w.cell? ⟨g, i, none⟩ = some (.int .u8 (os[i] : Int)) := by
  rw [h.cellAt i (by rw [List.length_map]; exact hi), List.getElem_map]
  rfl
theorem n8_bv (os : List Nat) (h : ∀ x ∈ os, x < 256) : os.map n8 = (os.map UInt8.ofNat).map bv := by
  rw [List.map_map]
  apply List.map_congr_left
  intro x hx
  have := h x hx
  show Value.int .u8 (x : Int) = Value.int .u8 ((UInt8.ofNat x).toNat : Int)
  rw [UInt8.toNat_ofNat', Nat.mod_eq_of_lt (by omega)]
theorem Bk.iterAt {w : World} {g : Nat} {t : TypeId} {vs : List Value} (h : Bk w g t vs) {k : Nat} (hk : g ≠ k) (s : ByteArray) (pos : Nat) : Bk (w.iterAt k s pos) g t vs := (Lib.iterAt_other w k g s pos hk).trans h

theorem quiet_same {P : Program} {f : FuncId} {args : Array Value} {w : World} {v : Value} (h : Calls P f args w fun e w' => e = .returned v ∧ w = w') : Calls P f args w fun e w'' => e = .returned v ∧ w'' = w :=
  h.mono fun _ _ ⟨a, b⟩ => ⟨a, b.symm⟩
theorem iterPos_of {w : World} {k : Nat} {s : ByteArray} {p : Nat} (h : w.heap[k]? = some (.stringIter s p)) : w.iterPos k = p := by simp [World.iterPos, h]
/-- Bytes, and what is wrong with their digits. -/
def RetB (l : List UInt8) (e : Int) (w : World) (x : Ending) (w' : World) : Prop :=
  ∃ A n c, x = .returned (.tuple #[.slice A n c, .int .i64 e]) ∧ Hid (l.length = n) ∧ n ≤ c ∧ c ≤ maxLen ∧ Bs w' w'.heap.size A l ∧ Below w.heap.size w w'
theorem made_hexd (l : List UInt8) : madeL isHexd isHexd l = (decide (0 < l.length) && onlyL l hexS) := by
  rw [only_hexS]
  cases l with
  | nil => rfl
  | cons c t => simp [madeL]

end Go.Proofs.YtolpggmcjengcaaDoor
