/-
  What package rec is to do; package taximeterlaw11: awake, over that.
-/
import Derived.Test.YtolpggmcjengcaaDoorRef11
import Derived.Test.YtolpggmcjengcaaDoorSame
import Derived.Test.YtolpggmcjengcaaDoorPrice2
namespace Go.Proofs.YtolpggmcjengcaaDoor
open Go.RowKit
set_option linter.unusedVariables false

theorem Dbj.under {w w' : World} (h : Dbj w) (hb : Below w.heap.size w w') : Dbj w' := fun i hi => by
  have h1 := h i hi
  rw [hb.cell (World.block_lt_of_cell? w _ h1)]
  exact h1
/-- What rec.Has, rec.Check, rec.Encode and rec.Decode are to do. -/
def HasLaw : Prop := ∀ (k : Int) (w : World), (Lit.int .i64 k).wf = true → Calls Tryd.prog 7 #[.int .i64 k] w fun e w' => e = .returned (.tuple #[.bool (hasLe k), .bool (hasNu k), .bool (hasBi k)]) ∧ Below w.heap.size w w'
def CheckLaw : Prop := ∀ (r : RecV) (w : World), r.Ok → Dbj w → Calls Tryd.prog 8 #[r.val] w fun e w' => e = .returned (.int .i64 (checkR r)) ∧ Below w.heap.size w w'
def EncodeLaw : Prop := ∀ (r : RecV) (w : World), r.Ok → r.name.size ≤ 65536 → Dbj w → Calls Tryd.prog 11 #[r.val] w (RetB (if checkR r = 0 then bytesR r else []) (checkR r) w)
def DecodeLaw : Prop := ∀ (A : Option Addr) (n c : Nat) (l : List UInt8) (w : World), Hid (l.length = n) → n ≤ 65536 → n ≤ c → c ≤ maxLen → Bs w w.heap.size A l → Dbj w →
  Calls Tryd.prog 12 #[.slice A n c] w fun e w' => e = .returned (.tuple #[(decR l).1.val, .int .i64 (decR l).2]) ∧ Below w.heap.size w w'
def Awake11 : Prop := ∀ w : World, Dbj w → Calls Tryd.prog 6 #[] w fun e w' => e = .returned (.bool true) ∧ Below w.heap.size w w'

def aw11 : RecV := ⟨1, 1, ⟨#[97]⟩, 0, 5, 0⟩
theorem aw11_ok : aw11.Ok := ⟨by decide, by decide, by unfold maxLen; decide, by decide, by decide, by decide⟩
theorem aw11_check : checkR aw11 = 0 := by decide +kernel
theorem aw11_bytes : bytesR aw11 = [1, 1, 0, 0, 0, 0, 0, 0, 0, 1, 97, 5, 0, 0, 0, 0, 0, 0, 0] := by decide +kernel
set_option maxRecDepth 100000 in
set_option maxHeartbeats 1600000 in
theorem awake11_over (hE : EncodeLaw) : Awake11 := by
  intro w hT
  have h1 := hE aw11 w aw11_ok (by decide) hT
  rw [aw11_check, if_pos rfl, aw11_bytes] at h1
  have H1 : Hid (Calls Tryd.prog 11 #[.agg #[.int .u64 1, .int .i64 1, .string ⟨#[97]⟩, .int .u64 0, .int .u64 5, .int .u64 0]] w _) := Lib.hid h1
  clear h1 hE hT
  go_enter Tryd.func6, Tryd.ntmps6
  go_wp2_with fail
  refine H1.out.mono ?_
  rintro e' w1 ⟨A, n, c, rfl, hn, hnc, hcm, hv, hb1⟩
  obtain rfl : 19 = n := hn.out
  obtain ⟨b, o, rfl, hbb, hcell⟩ := hv.at_ (by decide)
  have hc0 : w1.cell? ⟨b, o, none⟩ = some (.int .u8 1) := hcell 0 (by decide)
  have hc9 : w1.cell? ⟨b, o + 9, none⟩ = some (.int .u8 1) := hcell 9 (by decide)
  have hc10 : w1.cell? ⟨b, o + 10, none⟩ = some (.int .u8 97) := hcell 10 (by decide)
  have hc11 : w1.cell? ⟨b, o + 11, none⟩ = some (.int .u8 5) := hcell 11 (by decide)
  clear hcell
  go_wp2_with fail
  go_ret
  exact ⟨rfl, hb1⟩
end Go.Proofs.YtolpggmcjengcaaDoor
