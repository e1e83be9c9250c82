/-
  Package price: Due, Check; the law's awake.
-/
import Derived.Test.YtolpggmcjengcaaDoorPrice
import Derived.Test.YtolpggmcjengcaaDoorReal8
namespace Go.Proofs.YtolpggmcjengcaaDoor
open Go.RowKit
set_option linter.unusedVariables false

theorem partsM_lt (b : Nat) : partsM b < 18446744073709551616 := by
  unfold partsM
  split
  · exact Nat.lt_trans (odd_lt (mg_lt _)) (by omega)
  · omega
theorem partsE_in (b : Nat) : -2000 ≤ partsE b ∧ partsE b ≤ 2000 := by
  unfold partsE
  split
  · rename_i h
    have h1 : pl (rung b) ≤ 2048 := by unfold pl rung; omega
    have h2 : tz (mg (rung b)) ≤ 64 := by
      rcases Nat.eq_zero_or_pos (mg (rung b)) with h0 | h0
      · rw [h0]; decide
      · obtain ⟨_, _, _, h3⟩ := odd_spec h0 (mg_lt (rung b))
        omega
    omega
  · omega

/-- A quiet call's contract, as a region that draws its order asks it. -/
theorem qcall {P : Program} {f : FuncId} {args : Array Value} {w : World} {n : Nat} {v : Value} (h : Calls P f args (w.drewN n) fun e w' => e = .returned v ∧ w.drewN n = w') :
    Calls P f args (w.drewN n) fun e w'' => e = .returned v ∧ ∃ m, w'' = w.drewN m := h.mono fun _ _ ⟨a, b⟩ => ⟨a, n, b.symm⟩

/-- What n bytes come to; 0 for what is no price. -/
def dueOf (n b : Nat) : Nat := if partsI b then dueN (n * partsM b) (partsE b) else 0
/-- The error of a price: ErrPrice or none. -/
def errOf (b : Nat) : Int := if partsI b then 0 else 13
/-- The bits that Check answers. -/
def chkOf (b : Nat) : Nat := if partsI b then canN b else 0

/-- A quiet call's answer: a number and an error; the world drew at most. -/
def PaidE (d : Nat) (x : Int) (w : World) (e : Ending) (w' : World) : Prop := e = .returned (.tuple #[.int .u64 (d : Int), .int .i64 x]) ∧ ∃ q, w' = w.drewN q

/-- price.Check -/
theorem check_any (b : Nat) (w : World) (hb : b < 18446744073709551616) (hT : Dbj w) : Calls Tryd.prog 33 #[.int .u64 (b : Int)] w fun e w' => e = .returned (.tuple #[.int .u64 (chkOf b : Int), .int .i64 (errOf b)]) ∧ w = w' := by
  have HP := Lib.hid (parts_any b w hb hT)
  cases hI : partsI b with
  | false =>
    have HD : Hid (chkOf b = 0) := by show _ = _; unfold chkOf; rw [hI]; rfl
    have HE : Hid (errOf b = 13) := by show _ = _; unfold errOf; rw [hI]; rfl
    rw [hI] at HP
    clear hI hT
    go_enter Tryd.func33, Tryd.ntmps33
    go_wp2_with fail
    refine (HP.out).mono ?_
    rintro e' w1 ⟨rfl, rfl⟩
    go_wp2_with fail
    go_ret2
    exact ⟨by rw [HD.out, HE.out]; rfl, rfl⟩
  | true =>
    have HD : Hid (chkOf b = canN b) := by show _ = _; unfold chkOf; rw [hI]; rfl
    have HE : Hid (errOf b = 0) := by show _ = _; unfold errOf; rw [hI]; rfl
    rw [hI] at HP
    have HC := Lib.hid (canon_any b w hb)
    obtain ⟨c, hc⟩ : ∃ c, canN b = c := ⟨_, rfl⟩
    rw [hc] at HC HD
    clear hI hT hc
    go_enter Tryd.func33, Tryd.ntmps33
    go_wp2_with fail
    refine (HP.out).mono ?_
    rintro e' w1 ⟨rfl, rfl⟩
    go_wp2_with fail
    refine (HC.out).mono ?_
    rintro e' w1 ⟨rfl, rfl⟩
    go_wp2_with fail
    go_ret2
    exact ⟨by rw [HD.out, HE.out]; rfl, rfl⟩
/-- The listed table's cells, as the card lays them. -/
theorem dbj_of {tab : List Int} {w : World} (h : ∀ i, i < 64 → w.cell? ⟨1, i, none⟩ = some (.int .u8 (tab.getD i 0))) (e : ∀ i, i < 64 → tab.getD i 0 = ((Lib.deBruijn64tab.getD i 0 : Nat) : Int)) : Dbj w := fun i hi => by
  rw [h i hi, e i hi]
theorem due_ex : dueOf 10 4598175219545276416 = 2 := by decide +kernel
theorem err_ex : errOf 4598175219545276416 = 0 := by decide +kernel

end Go.Proofs.YtolpggmcjengcaaDoor
