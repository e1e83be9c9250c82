/-
  Package price: Over, Add, and the reference's Add; math/bits.Len64 and LeadingZeros64.
-/
import Derived.Test.YtgefjlamlgmijaaDoorMem
import Derived.Test.YtgefjlamlgmijaaDoorPriceN
import Derived.Test.YtgefjlamlgmijaaDoorMul64
import Derived.Lib.Tables
import Derived.Lib.BitFns
namespace Go.Proofs.YtgefjlamlgmijaaDoor
open Go.RowKit
set_option linter.unusedVariables false

def overB (a b : Nat) : Bool := decide (18446744073709551615 < a + b)
def addN (a b : Nat) : Nat := min (a + b) 18446744073709551615

theorem over_any (a b : Nat) (w : World) (ha : a < 18446744073709551616) (hb : b < 18446744073709551616) : Calls Tryd.prog 14 #[.int .u64 (a : Int), .int .u64 (b : Int)] w fun e w' => e = .returned (.bool (overB a b)) ∧ w = w' := by
  have HO : Hid (decide ((18446744073709551615 : Int) - (b : Int) < (a : Int)) = overB a b) := by
    show _ = _
    unfold overB
    rw [Bool.eq_iff_iff, decide_eq_true_iff, decide_eq_true_iff]
    omega
  go_enter Tryd.func14, Tryd.ntmps14
  go_wp2_with fail
  go_ret
  refine ⟨?_, rfl⟩
  rw [← HO.out]
  rfl
/-- The constant of 256 bytes, as the program's text lays it. -/
@[go_sem ↓ high] theorem fold_len : (⟨(([0, 1, 2, 2, 3, 3, 3, 3, 4, 4, 4, 4, 4, 4, 4, 4, 5, 5, 5, 5, 5, 5, 5, 5, 5, 5, 5, 5, 5, 5, 5, 5, 6, 6, 6, 6, 6, 6, 6, 6, 6, 6, 6, 6, 6, 6, 6, 6, 6, 6, 6, 6, 6, 6, 6, 6, 6, 6, 6, 6, 6, 6, 6, 6].append [7, 7, 7, 7, 7, 7, 7, 7, 7, 7, 7, 7, 7, 7, 7, 7, 7, 7, 7, 7, 7, 7, 7, 7, 7, 7, 7, 7, 7, 7, 7, 7, 7, 7, 7, 7, 7, 7, 7, 7, 7, 7, 7, 7, 7, 7, 7, 7, 7, 7, 7, 7, 7, 7, 7, 7, 7, 7, 7, 7, 7, 7, 7, 7]).append ([8, 8, 8, 8, 8, 8, 8, 8, 8, 8, 8, 8, 8, 8, 8, 8, 8, 8, 8, 8, 8, 8, 8, 8, 8, 8, 8, 8, 8, 8, 8, 8, 8, 8, 8, 8, 8, 8, 8, 8, 8, 8, 8, 8, 8, 8, 8, 8, 8, 8, 8, 8, 8, 8, 8, 8, 8, 8, 8, 8, 8, 8, 8, 8].append [8, 8, 8, 8, 8, 8, 8, 8, 8, 8, 8, 8, 8, 8, 8, 8, 8, 8, 8, 8, 8, 8, 8, 8, 8, 8, 8, 8, 8, 8, 8, 8, 8, 8, 8, 8, 8, 8, 8, 8, 8, 8, 8, 8, 8, 8, 8, 8, 8, 8, 8, 8, 8, 8, 8, 8, 8, 8, 8, 8, 8, 8, 8, 8])).toArray⟩ : ByteArray) = Lib.len8tab := by decide +kernel

theorem tab_get (C : ByteArray) (y : Nat) (h : y < C.size) : ((C[y]?).getD 0).toNat = (C[y]'h).toNat := by rw [getElem?_pos C y h]; rfl
theorem tab8 (y : Nat) (hy : y < 256) : ∃ C : ByteArray, Lib.len8tab = C ∧ ∃ h : y < C.size, (C[y]'h).toNat = Lib.bitLen y := by
  have hs : y < Lib.len8tab.size := by rw [Lib.len8tab_size]; exact hy
  refine ⟨_, rfl, hs, ?_⟩
  have h := Lib.len8_eq ⟨y, hy⟩
  unfold Lib.len8 at h
  rw [Int.toNat_natCast, tab_get _ y hs] at h
  exact Int.ofNat.inj h
theorem len_end (t k : Nat) (ht : t ≤ 8) (hk : k ≤ 56) : wrap64 ((k : Int) + wrap64 (t : Int)) = ((k + t : Nat) : Int) := by unfold wrap64; omega
theorem len_end0 (t : Nat) (ht : t ≤ 8) : wrap64 (wrap64 (t : Int)) = ((0 + t : Nat) : Int) := by unfold wrap64; omega
theorem len_000 (x : Nat) (w : World) (hx : x < 256) : Calls Tryd.prog 34 #[.int .u64 (x : Int)] w fun e w' => e = .returned (.int .i64 (Lib.bitLen x : Int)) ∧ w = w' := by
  have hy1 : decide ((4294967296 : Int) ≤ (x : Int)) = false := by rw [decide_eq_false_iff_not]; omega
  have hy2 : decide ((65536 : Int) ≤ (x : Int)) = false := by rw [decide_eq_false_iff_not]; omega
  have hy3 : decide ((256 : Int) ≤ (x : Int)) = false := by rw [decide_eq_false_iff_not]; omega
  have HL : Hid (Lib.bitLen x = 0 + Lib.bitLen x) := by show _ = _; rw [Nat.zero_add]
  have hs : x < 256 := by omega
  have hle : Lib.bitLen x ≤ 8 := Lib.bitLen_le x 8 (by omega) hs
  obtain ⟨C, hC, hlt, hget⟩ := tab8 x hs
  have HC := Lib.hid hC
  have HG := Lib.hid hget
  clear hC hget
  go_enter Tryd.func34, Tryd.ntmps34
  simp only [fold_len]
  rw [HC.out]
  go_wp2
  go_ret
  refine ⟨congrArg (fun z => Ending.returned (.int .i64 z)) (?_ : wrap64 (wrap64 (C[x].toNat : Int)) = (Lib.bitLen x : Int)), rfl⟩
  rw [HL.out, HG.out]
  exact len_end0 _ hle
theorem len_001 (x : Nat) (w : World) (hlo : 256 ≤ x) (hx : x < 65536) : Calls Tryd.prog 34 #[.int .u64 (x : Int)] w fun e w' => e = .returned (.int .i64 (Lib.bitLen x : Int)) ∧ w = w' := by
  have hy1 : decide ((4294967296 : Int) ≤ (x : Int)) = false := by rw [decide_eq_false_iff_not]; omega
  have hy2 : decide ((65536 : Int) ≤ (x : Int)) = false := by rw [decide_eq_false_iff_not]; omega
  have hy3 : decide ((256 : Int) ≤ (x : Int)) = true := by rw [decide_eq_true_iff]; omega
  obtain ⟨y3, ey3⟩ : ∃ y3, x / 256 = y3 := ⟨_, rfl⟩
  have gy3 : (x : Int) / 256 = (y3 : Int) := by omega
  have hq : x / 256 = y3 := by omega
  have HL : Hid (Lib.bitLen x = 8 + Lib.bitLen y3) := by show _ = _; rw [← hq]; exact Lib.bitLen_shift 8 x (by omega) (by omega)
  have hs : y3 < 256 := by omega
  have hle : Lib.bitLen y3 ≤ 8 := Lib.bitLen_le y3 8 (by omega) hs
  obtain ⟨C, hC, hlt, hget⟩ := tab8 y3 hs
  have HC := Lib.hid hC
  have HG := Lib.hid hget
  clear hC hget ey3 hq
  go_enter Tryd.func34, Tryd.ntmps34
  simp only [fold_len]
  rw [HC.out]
  go_wp2
  go_ret
  refine ⟨congrArg (fun z => Ending.returned (.int .i64 z)) (?_ : wrap64 (8 + wrap64 (C[y3].toNat : Int)) = (Lib.bitLen x : Int)), rfl⟩
  rw [HL.out, HG.out]
  exact len_end _ 8 hle (by omega)
theorem len_010 (x : Nat) (w : World) (hlo : 65536 ≤ x) (hx : x < 16777216) : Calls Tryd.prog 34 #[.int .u64 (x : Int)] w fun e w' => e = .returned (.int .i64 (Lib.bitLen x : Int)) ∧ w = w' := by
  have hy1 : decide ((4294967296 : Int) ≤ (x : Int)) = false := by rw [decide_eq_false_iff_not]; omega
  have hy2 : decide ((65536 : Int) ≤ (x : Int)) = true := by rw [decide_eq_true_iff]; omega
  obtain ⟨y2, ey2⟩ : ∃ y2, x / 65536 = y2 := ⟨_, rfl⟩
  have gy2 : (x : Int) / 65536 = (y2 : Int) := by omega
  have hy3 : decide ((256 : Int) ≤ (y2 : Int)) = false := by rw [decide_eq_false_iff_not]; omega
  have hq : x / 65536 = y2 := by omega
  have HL : Hid (Lib.bitLen x = 16 + Lib.bitLen y2) := by show _ = _; rw [← hq]; exact Lib.bitLen_shift 16 x (by omega) (by omega)
  have hs : y2 < 256 := by omega
  have hle : Lib.bitLen y2 ≤ 8 := Lib.bitLen_le y2 8 (by omega) hs
  obtain ⟨C, hC, hlt, hget⟩ := tab8 y2 hs
  have HC := Lib.hid hC
  have HG := Lib.hid hget
  clear hC hget ey2 hq
  go_enter Tryd.func34, Tryd.ntmps34
  simp only [fold_len]
  rw [HC.out]
  go_wp2
  go_ret
  refine ⟨congrArg (fun z => Ending.returned (.int .i64 z)) (?_ : wrap64 (16 + wrap64 (C[y2].toNat : Int)) = (Lib.bitLen x : Int)), rfl⟩
  rw [HL.out, HG.out]
  exact len_end _ 16 hle (by omega)
theorem len_011 (x : Nat) (w : World) (hlo : 16777216 ≤ x) (hx : x < 4294967296) : Calls Tryd.prog 34 #[.int .u64 (x : Int)] w fun e w' => e = .returned (.int .i64 (Lib.bitLen x : Int)) ∧ w = w' := by
  have hy1 : decide ((4294967296 : Int) ≤ (x : Int)) = false := by rw [decide_eq_false_iff_not]; omega
  have hy2 : decide ((65536 : Int) ≤ (x : Int)) = true := by rw [decide_eq_true_iff]; omega
  obtain ⟨y2, ey2⟩ : ∃ y2, x / 65536 = y2 := ⟨_, rfl⟩
  have gy2 : (x : Int) / 65536 = (y2 : Int) := by omega
  have hy3 : decide ((256 : Int) ≤ (y2 : Int)) = true := by rw [decide_eq_true_iff]; omega
  obtain ⟨y3, ey3⟩ : ∃ y3, y2 / 256 = y3 := ⟨_, rfl⟩
  have gy3 : (y2 : Int) / 256 = (y3 : Int) := by omega
  have hq : x / 16777216 = y3 := by omega
  have HL : Hid (Lib.bitLen x = 24 + Lib.bitLen y3) := by show _ = _; rw [← hq]; exact Lib.bitLen_shift 24 x (by omega) (by omega)
  have hs : y3 < 256 := by omega
  have hle : Lib.bitLen y3 ≤ 8 := Lib.bitLen_le y3 8 (by omega) hs
  obtain ⟨C, hC, hlt, hget⟩ := tab8 y3 hs
  have HC := Lib.hid hC
  have HG := Lib.hid hget
  clear hC hget ey2 ey3 hq
  go_enter Tryd.func34, Tryd.ntmps34
  simp only [fold_len]
  rw [HC.out]
  go_wp2
  go_ret
  refine ⟨congrArg (fun z => Ending.returned (.int .i64 z)) (?_ : wrap64 (24 + wrap64 (C[y3].toNat : Int)) = (Lib.bitLen x : Int)), rfl⟩
  rw [HL.out, HG.out]
  exact len_end _ 24 hle (by omega)
theorem len_100 (x : Nat) (w : World) (hlo : 4294967296 ≤ x) (hx : x < 1099511627776) : Calls Tryd.prog 34 #[.int .u64 (x : Int)] w fun e w' => e = .returned (.int .i64 (Lib.bitLen x : Int)) ∧ w = w' := by
  have hy1 : decide ((4294967296 : Int) ≤ (x : Int)) = true := by rw [decide_eq_true_iff]; omega
  obtain ⟨y1, ey1⟩ : ∃ y1, x / 4294967296 = y1 := ⟨_, rfl⟩
  have gy1 : (x : Int) / 4294967296 = (y1 : Int) := by omega
  have hy2 : decide ((65536 : Int) ≤ (y1 : Int)) = false := by rw [decide_eq_false_iff_not]; omega
  have hy3 : decide ((256 : Int) ≤ (y1 : Int)) = false := by rw [decide_eq_false_iff_not]; omega
  have hq : x / 4294967296 = y1 := by omega
  have HL : Hid (Lib.bitLen x = 32 + Lib.bitLen y1) := by show _ = _; rw [← hq]; exact Lib.bitLen_shift 32 x (by omega) (by omega)
  have hs : y1 < 256 := by omega
  have hle : Lib.bitLen y1 ≤ 8 := Lib.bitLen_le y1 8 (by omega) hs
  obtain ⟨C, hC, hlt, hget⟩ := tab8 y1 hs
  have HC := Lib.hid hC
  have HG := Lib.hid hget
  clear hC hget ey1 hq
  go_enter Tryd.func34, Tryd.ntmps34
  simp only [fold_len]
  rw [HC.out]
  go_wp2
  go_ret
  refine ⟨congrArg (fun z => Ending.returned (.int .i64 z)) (?_ : wrap64 (32 + wrap64 (C[y1].toNat : Int)) = (Lib.bitLen x : Int)), rfl⟩
  rw [HL.out, HG.out]
  exact len_end _ 32 hle (by omega)
theorem len_101 (x : Nat) (w : World) (hlo : 1099511627776 ≤ x) (hx : x < 281474976710656) : Calls Tryd.prog 34 #[.int .u64 (x : Int)] w fun e w' => e = .returned (.int .i64 (Lib.bitLen x : Int)) ∧ w = w' := by
  have hy1 : decide ((4294967296 : Int) ≤ (x : Int)) = true := by rw [decide_eq_true_iff]; omega
  obtain ⟨y1, ey1⟩ : ∃ y1, x / 4294967296 = y1 := ⟨_, rfl⟩
  have gy1 : (x : Int) / 4294967296 = (y1 : Int) := by omega
  have hy2 : decide ((65536 : Int) ≤ (y1 : Int)) = false := by rw [decide_eq_false_iff_not]; omega
  have hy3 : decide ((256 : Int) ≤ (y1 : Int)) = true := by rw [decide_eq_true_iff]; omega
  obtain ⟨y3, ey3⟩ : ∃ y3, y1 / 256 = y3 := ⟨_, rfl⟩
  have gy3 : (y1 : Int) / 256 = (y3 : Int) := by omega
  have hq : x / 1099511627776 = y3 := by omega
  have HL : Hid (Lib.bitLen x = 40 + Lib.bitLen y3) := by show _ = _; rw [← hq]; exact Lib.bitLen_shift 40 x (by omega) (by omega)
  have hs : y3 < 256 := by omega
  have hle : Lib.bitLen y3 ≤ 8 := Lib.bitLen_le y3 8 (by omega) hs
  obtain ⟨C, hC, hlt, hget⟩ := tab8 y3 hs
  have HC := Lib.hid hC
  have HG := Lib.hid hget
  clear hC hget ey1 ey3 hq
  go_enter Tryd.func34, Tryd.ntmps34
  simp only [fold_len]
  rw [HC.out]
  go_wp2
  go_ret
  refine ⟨congrArg (fun z => Ending.returned (.int .i64 z)) (?_ : wrap64 (40 + wrap64 (C[y3].toNat : Int)) = (Lib.bitLen x : Int)), rfl⟩
  rw [HL.out, HG.out]
  exact len_end _ 40 hle (by omega)
theorem len_110 (x : Nat) (w : World) (hlo : 281474976710656 ≤ x) (hx : x < 72057594037927936) : Calls Tryd.prog 34 #[.int .u64 (x : Int)] w fun e w' => e = .returned (.int .i64 (Lib.bitLen x : Int)) ∧ w = w' := by
  have hy1 : decide ((4294967296 : Int) ≤ (x : Int)) = true := by rw [decide_eq_true_iff]; omega
  obtain ⟨y1, ey1⟩ : ∃ y1, x / 4294967296 = y1 := ⟨_, rfl⟩
  have gy1 : (x : Int) / 4294967296 = (y1 : Int) := by omega
  have hy2 : decide ((65536 : Int) ≤ (y1 : Int)) = true := by rw [decide_eq_true_iff]; omega
  obtain ⟨y2, ey2⟩ : ∃ y2, y1 / 65536 = y2 := ⟨_, rfl⟩
  have gy2 : (y1 : Int) / 65536 = (y2 : Int) := by omega
  have hy3 : decide ((256 : Int) ≤ (y2 : Int)) = false := by rw [decide_eq_false_iff_not]; omega
  have hq : x / 281474976710656 = y2 := by omega
  have HL : Hid (Lib.bitLen x = 48 + Lib.bitLen y2) := by show _ = _; rw [← hq]; exact Lib.bitLen_shift 48 x (by omega) (by omega)
  have hs : y2 < 256 := by omega
  have hle : Lib.bitLen y2 ≤ 8 := Lib.bitLen_le y2 8 (by omega) hs
  obtain ⟨C, hC, hlt, hget⟩ := tab8 y2 hs
  have HC := Lib.hid hC
  have HG := Lib.hid hget
  clear hC hget ey1 ey2 hq
  go_enter Tryd.func34, Tryd.ntmps34
  simp only [fold_len]
  rw [HC.out]
  go_wp2
  go_ret
  refine ⟨congrArg (fun z => Ending.returned (.int .i64 z)) (?_ : wrap64 (48 + wrap64 (C[y2].toNat : Int)) = (Lib.bitLen x : Int)), rfl⟩
  rw [HL.out, HG.out]
  exact len_end _ 48 hle (by omega)
theorem len_111 (x : Nat) (w : World) (hlo : 72057594037927936 ≤ x) (hx : x < 18446744073709551616) : Calls Tryd.prog 34 #[.int .u64 (x : Int)] w fun e w' => e = .returned (.int .i64 (Lib.bitLen x : Int)) ∧ w = w' := by
  have hy1 : decide ((4294967296 : Int) ≤ (x : Int)) = true := by rw [decide_eq_true_iff]; omega
  obtain ⟨y1, ey1⟩ : ∃ y1, x / 4294967296 = y1 := ⟨_, rfl⟩
  have gy1 : (x : Int) / 4294967296 = (y1 : Int) := by omega
  have hy2 : decide ((65536 : Int) ≤ (y1 : Int)) = true := by rw [decide_eq_true_iff]; omega
  obtain ⟨y2, ey2⟩ : ∃ y2, y1 / 65536 = y2 := ⟨_, rfl⟩
  have gy2 : (y1 : Int) / 65536 = (y2 : Int) := by omega
  have hy3 : decide ((256 : Int) ≤ (y2 : Int)) = true := by rw [decide_eq_true_iff]; omega
  obtain ⟨y3, ey3⟩ : ∃ y3, y2 / 256 = y3 := ⟨_, rfl⟩
  have gy3 : (y2 : Int) / 256 = (y3 : Int) := by omega
  have hq : x / 72057594037927936 = y3 := by omega
  have HL : Hid (Lib.bitLen x = 56 + Lib.bitLen y3) := by show _ = _; rw [← hq]; exact Lib.bitLen_shift 56 x (by omega) (by omega)
  have hs : y3 < 256 := by omega
  have hle : Lib.bitLen y3 ≤ 8 := Lib.bitLen_le y3 8 (by omega) hs
  obtain ⟨C, hC, hlt, hget⟩ := tab8 y3 hs
  have HC := Lib.hid hC
  have HG := Lib.hid hget
  clear hC hget ey1 ey2 ey3 hq
  go_enter Tryd.func34, Tryd.ntmps34
  simp only [fold_len]
  rw [HC.out]
  go_wp2
  go_ret
  refine ⟨congrArg (fun z => Ending.returned (.int .i64 z)) (?_ : wrap64 (56 + wrap64 (C[y3].toNat : Int)) = (Lib.bitLen x : Int)), rfl⟩
  rw [HL.out, HG.out]
  exact len_end _ 56 hle (by omega)
theorem len_any (x : Nat) (w : World) (hx : x < 18446744073709551616) : Calls Tryd.prog 34 #[.int .u64 (x : Int)] w fun e w' => e = .returned (.int .i64 (Lib.bitLen x : Int)) ∧ w = w' := by
  rcases Nat.lt_or_ge x 256 with h | h0
  · exact len_000 x w h
  rcases Nat.lt_or_ge x 65536 with h | h1
  · exact len_001 x w h0 h
  rcases Nat.lt_or_ge x 16777216 with h | h2
  · exact len_010 x w h1 h
  rcases Nat.lt_or_ge x 4294967296 with h | h3
  · exact len_011 x w h2 h
  rcases Nat.lt_or_ge x 1099511627776 with h | h4
  · exact len_100 x w h3 h
  rcases Nat.lt_or_ge x 281474976710656 with h | h5
  · exact len_101 x w h4 h
  rcases Nat.lt_or_ge x 72057594037927936 with h | h6
  · exact len_110 x w h5 h
  · exact len_111 x w h6 hx
theorem clz_any (x : Nat) (w : World) (hx : x < 18446744073709551616) : Calls Tryd.prog 27 #[.int .u64 (x : Int)] w fun e w' => e = .returned (.int .i64 (64 - (Lib.bitLen x : Int))) ∧ w = w' := by
  have hL := Lib.hid (len_any x w hx)
  have hle : Lib.bitLen x ≤ 64 := Lib.bitLen_le x 64 (by omega) (by omega)
  obtain ⟨l, hl⟩ : ∃ l, Lib.bitLen x = l := ⟨_, rfl⟩
  rw [hl] at hL hle ⊢
  clear hl
  go_enter Tryd.func27, Tryd.ntmps27
  go_wp2_with fail
  refine (hL.out).mono ?_
  rintro e' w1 ⟨rfl, rfl⟩
  go_wp2_with fail
  go_ret
  exact ⟨rfl, rfl⟩
/-- A number and its length in bits. -/
theorem bitLen_low : ∀ (f x : Nat), x < 2 ^ f → x < 2 ^ Lib.bitLenAux f x
  | 0, x, h => by simpa [Lib.bitLenAux] using h
  | f + 1, x, h => by
    unfold Lib.bitLenAux
    split
    · omega
    · have := bitLen_low f (x / 2) (by rw [Nat.pow_succ] at h; omega)
      rw [Nat.add_comm, Nat.pow_succ]
      omega
theorem bitLen_high : ∀ (f x : Nat), x ≠ 0 → x < 2 ^ f → 2 ^ Lib.bitLenAux f x ≤ 2 * x
  | 0, x, h0, h => by simp at h; omega
  | f + 1, x, h0, h => by
    unfold Lib.bitLenAux
    rw [if_neg h0, Nat.add_comm, Nat.pow_succ]
    by_cases h1 : x / 2 = 0
    · rw [h1]
      have : Lib.bitLenAux f 0 = 0 := by cases f <;> simp [Lib.bitLenAux]
      rw [this]
      omega
    · have := bitLen_high f (x / 2) h1 (by rw [Nat.pow_succ] at h; omega)
      omega
/-- A quiet call's answer: a number; the world drew at most. -/
def Paid (d : Nat) (w : World) (x : Ending) (w' : World) : Prop := x = .returned (.int .u64 (d : Int)) ∧ ∃ q, w' = w.drewN q
theorem shl_end (P k : Nat) (h1 : P * 2 ^ k < 18446744073709551616) : IntKind.u64.wrap ((P : Int) * 2 ^ k) = ((P * 2 ^ k : Nat) : Int) := by
  rw [show (P : Int) * 2 ^ k = ((P * 2 ^ k : Nat) : Int) by norm_cast]
  generalize P * 2 ^ k = X at *
  rw [IntKind.wrap_u64]
  omega
theorem mid_end (H L k j : Nat) (c : Int) (hc : c.toNat = j) (h3 : L / 2 ^ k < 2 ^ j) (h1 : H * 2 ^ j + L / 2 ^ k < 18446744073709551616) :
    bits .or .u64 (IntKind.u64.wrap ((H : Int) * 2 ^ c.toNat)) ((L : Int) / 2 ^ k) = ((H * 2 ^ j + L / 2 ^ k : Nat) : Int) := by
  rw [hc, show (H : Int) * 2 ^ j = ((H * 2 ^ j : Nat) : Int) by norm_cast, show (L : Int) / 2 ^ k = ((L / 2 ^ k : Nat) : Int) by norm_cast, ← or_up H (L / 2 ^ k) j h3 h1]
  congr 1
  generalize H * 2 ^ j = X at *
  generalize L / 2 ^ k = Y at *
  rw [IntKind.wrap_u64]
  omega
theorem times_0 (n m : Nat) (e : Int) (w : World) (hn : n < 18446744073709551616) (hm : m < 18446744073709551616) (hP : n * m = 0) : Calls Tryd.prog 16 #[.int .u64 (n : Int), .int .u64 (m : Int), .int .i64 e] w (Paid (dueN (n * m) e) w) := by
  have HM := Lib.hid (mul64_any n m hn hm w)
  have HD : Hid (dueN (n * m) e = 0) := by show _ = _; rw [hP, due_zero]
  have HP := Lib.hid hP
  have h0 := or_none 0 0 (by omega) (by omega)
  clear hP
  go_enter Tryd.func16, Tryd.ntmps16
  go_wp2_with fail
  refine (HM.out).mono ?_
  rintro e' w1 ⟨rfl, rfl⟩
  rw [HP.out]
  go_wp2_with fail
  go_ret
  exact ⟨by rw [HD.out]; rfl, 0, rfl⟩
theorem shr_min (H k : Nat) (c : Int) (hc : c = (k : Int)) (hH : H < 18446744073709551616) : (H : Int) / 2 ^ min c.toNat 64 = ((H / 2 ^ k : Nat) : Int) := by
  subst hc
  rw [Int.toNat_natCast]
  rcases Nat.le_total k 64 with h | h
  · rw [Nat.min_eq_left h]
    norm_cast
  · rw [Nat.min_eq_right h, Nat.div_eq_of_lt (Nat.lt_of_lt_of_le (show H < 2 ^ 64 by omega) (Nat.pow_le_pow_right (by omega) h))]
    omega
theorem times_low (n m k : Nat) (w : World) (hn : n < 18446744073709551616) (hm : m < 18446744073709551616) (hP : n * m ≠ 0) (hk : k ≤ 2000) : Calls Tryd.prog 16 #[.int .u64 (n : Int), .int .u64 (m : Int), .int .i64 (-64 - (k : Int))] w (Paid (dueN (n * m) (-64 - (k : Int))) w) := by
  have HM := Lib.hid (mul64_any n m hn hm w)
  have hlt : n * m < 18446744073709551616 * 18446744073709551616 := Nat.mul_lt_mul'' hn hm
  have HD := Lib.hid (t_low (n * m) k (-64 - (k : Int)) (by omega) hlt)
  have hH : n * m / 18446744073709551616 < 18446744073709551616 := by omega
  have hL : n * m % 18446744073709551616 < 18446744073709551616 := by omega
  have h0 := or_none _ _ hH hL
  rw [decide_eq_false (by omega)] at h0
  obtain ⟨H, hHe⟩ : ∃ H, n * m / 18446744073709551616 = H := ⟨_, rfl⟩
  obtain ⟨L, hLe⟩ : ∃ L, n * m % 18446744073709551616 = L := ⟨_, rfl⟩
  have HH := Lib.hid hHe
  have HL := Lib.hid hLe
  rw [hHe] at hH h0 HD
  rw [hLe] at hL h0
  clear hHe hLe hP hlt
  go_enter Tryd.func16, Tryd.ntmps16
  go_wp2_with fail
  refine (HM.out).mono ?_
  rintro e' w1 ⟨rfl, rfl⟩
  rw [HH.out, HL.out]
  go_wp2_with fail
  go_ret
  refine ⟨?_, 0, rfl⟩
  rw [HD.out]
  exact congrArg (fun z => Ending.returned (.int .u64 z)) (shr_min H k _ (by omega) hH)
theorem times_mid (n m k : Nat) (w : World) (hn : n < 18446744073709551616) (hm : m < 18446744073709551616) (hP : n * m ≠ 0) (hk0 : 1 ≤ k) (hk : k ≤ 63) (hz : n * m / 18446744073709551616 / 2 ^ k = 0) : Calls Tryd.prog 16 #[.int .u64 (n : Int), .int .u64 (m : Int), .int .i64 (-(k : Int))] w (Paid (dueN (n * m) (-(k : Int))) w) := by
  have HM := Lib.hid (mul64_any n m hn hm w)
  have hlt : n * m < 18446744073709551616 * 18446744073709551616 := Nat.mul_lt_mul'' hn hm
  obtain ⟨hd, hd1, hd2, hd3⟩ := t_mid (n * m) k (64 - k) (-(k : Int)) rfl (by omega) hz
  have HD := Lib.hid hd
  have hH : n * m / 18446744073709551616 < 18446744073709551616 := by omega
  have hL : n * m % 18446744073709551616 < 18446744073709551616 := by omega
  have h0 := or_none _ _ hH hL
  rw [decide_eq_false (by omega)] at h0
  obtain ⟨H, hHe⟩ : ∃ H, n * m / 18446744073709551616 = H := ⟨_, rfl⟩
  obtain ⟨L, hLe⟩ : ∃ L, n * m % 18446744073709551616 = L := ⟨_, rfl⟩
  have HH := Lib.hid hHe
  have HL := Lib.hid hLe
  rw [hHe] at hH h0 HD hd hd1 hd2 hz
  rw [hLe] at hL h0 HD hd hd1 hd3
  clear hHe hLe hP hlt hd
  have hs0 : ((H : Int) / 2 ^ k == 0) = true := by rw [show (H : Int) / 2 ^ k = ((H / 2 ^ k : Nat) : Int) by norm_cast, hz]; rfl
  go_enter Tryd.func16, Tryd.ntmps16
  go_wp2_with fail
  refine (HM.out).mono ?_
  rintro e' w1 ⟨rfl, rfl⟩
  rw [HH.out, HL.out]
  go_wp2_with fail
  go_quiet (fail)
  go_wp2_with fail
  go_ret
  refine ⟨?_, _, rfl⟩
  rw [HD.out]
  exact congrArg (fun z => Ending.returned (.int .u64 z)) (mid_end H L k (64 - k) _ (by omega) hd3 hd1)
theorem times_midover (n m k : Nat) (w : World) (hn : n < 18446744073709551616) (hm : m < 18446744073709551616) (hP : n * m ≠ 0) (hk0 : 1 ≤ k) (hk : k ≤ 63) (hz : n * m / 18446744073709551616 / 2 ^ k ≠ 0) : Calls Tryd.prog 16 #[.int .u64 (n : Int), .int .u64 (m : Int), .int .i64 (-(k : Int))] w (Paid (dueN (n * m) (-(k : Int))) w) := by
  have HM := Lib.hid (mul64_any n m hn hm w)
  have hlt : n * m < 18446744073709551616 * 18446744073709551616 := Nat.mul_lt_mul'' hn hm
  have HD := Lib.hid (t_midover (n * m) k (-(k : Int)) rfl hz)
  have hH : n * m / 18446744073709551616 < 18446744073709551616 := by omega
  have hL : n * m % 18446744073709551616 < 18446744073709551616 := by omega
  have h0 := or_none _ _ hH hL
  rw [decide_eq_false (by omega)] at h0
  obtain ⟨H, hHe⟩ : ∃ H, n * m / 18446744073709551616 = H := ⟨_, rfl⟩
  obtain ⟨L, hLe⟩ : ∃ L, n * m % 18446744073709551616 = L := ⟨_, rfl⟩
  have HH := Lib.hid hHe
  have HL := Lib.hid hLe
  rw [hHe] at hH h0 hz
  rw [hLe] at hL h0
  clear hHe hLe hP hlt
  have hs0 : ((H : Int) / 2 ^ k == 0) = false := by
    rw [show (H : Int) / 2 ^ k = ((H / 2 ^ k : Nat) : Int) by norm_cast, beq_eq_false_iff_ne]
    intro h
    exact hz (by exact_mod_cast h)
  clear hz
  go_enter Tryd.func16, Tryd.ntmps16
  go_wp2_with fail
  refine (HM.out).mono ?_
  rintro e' w1 ⟨rfl, rfl⟩
  rw [HH.out, HL.out]
  go_wp2_with fail
  go_ret
  exact ⟨by rw [HD.out]; rfl, 0, rfl⟩
theorem times_high (n m k : Nat) (w : World) (hn : n < 18446744073709551616) (hm : m < 18446744073709551616) (hk : k ≤ 2000) (hz : n * m / 18446744073709551616 ≠ 0) : Calls Tryd.prog 16 #[.int .u64 (n : Int), .int .u64 (m : Int), .int .i64 (k : Int)] w (Paid (dueN (n * m) (k : Int)) w) := by
  have HM := Lib.hid (mul64_any n m hn hm w)
  have hlt : n * m < 18446744073709551616 * 18446744073709551616 := Nat.mul_lt_mul'' hn hm
  have HD := Lib.hid (t_overH (n * m) (k : Int) (by omega) (by omega))
  have hH : n * m / 18446744073709551616 < 18446744073709551616 := by omega
  have hL : n * m % 18446744073709551616 < 18446744073709551616 := by omega
  have h0 := or_none _ _ hH hL
  rw [decide_eq_false (by omega)] at h0
  obtain ⟨H, hHe⟩ : ∃ H, n * m / 18446744073709551616 = H := ⟨_, rfl⟩
  obtain ⟨L, hLe⟩ : ∃ L, n * m % 18446744073709551616 = L := ⟨_, rfl⟩
  have HH := Lib.hid hHe
  have HL := Lib.hid hLe
  rw [hHe] at hH h0 hz
  rw [hLe] at hL h0
  clear hHe hLe hlt
  have hs0 : ((H : Int) == 0) = false := by rw [beq_eq_false_iff_ne]; omega
  go_enter Tryd.func16, Tryd.ntmps16
  go_wp2_with fail
  refine (HM.out).mono ?_
  rintro e' w1 ⟨rfl, rfl⟩
  rw [HH.out, HL.out]
  go_wp2_with fail
  go_ret
  exact ⟨by rw [HD.out]; rfl, 0, rfl⟩
theorem times_one (n m k : Nat) (w : World) (hn : n < 18446744073709551616) (hm : m < 18446744073709551616) (hP : n * m ≠ 0) (hk : k ≤ 2000) (hz : n * m / 18446744073709551616 = 0) : Calls Tryd.prog 16 #[.int .u64 (n : Int), .int .u64 (m : Int), .int .i64 (k : Int)] w (Paid (dueN (n * m) (k : Int)) w) := by
  have HM := Lib.hid (mul64_any n m hn hm w)
  have hL : n * m < 18446744073709551616 := by omega
  have HZ := Lib.hid hz
  have HL : Hid (n * m % 18446744073709551616 = n * m) := by show _ = _; omega
  have h0 := or_none 0 _ (by omega) hL
  rw [decide_eq_false (by omega)] at h0
  have HC := Lib.hid (clz_any (n * m) w hL)
  have hb1 : n * m < 2 ^ Lib.bitLen (n * m) := bitLen_low 64 (n * m) (by omega)
  have hb2 : 2 ^ Lib.bitLen (n * m) ≤ 2 * (n * m) := bitLen_high 64 (n * m) hP (by omega)
  have hb3 : Lib.bitLen (n * m) ≤ 64 := Lib.bitLen_le _ 64 (by omega) (by omega)
  have hb4 : Lib.bitLen (n * m) ≠ 0 := by intro h; rw [h] at hb1; omega
  have hb5 : Lib.bitLen (n * m) = (Lib.bitLen (n * m) - 1) + 1 := by omega
  have hb6 : 2 ^ (Lib.bitLen (n * m) - 1) ≤ n * m := by rw [hb5, Nat.pow_succ] at hb2; omega
  clear hb2 hb5 hz
  obtain ⟨P, hPe⟩ : ∃ P, n * m = P := ⟨_, rfl⟩
  have HP := Lib.hid hPe
  rw [hPe] at hL HL HZ h0 HC hb1 hb3 hb4 hb6 hP ⊢
  obtain ⟨l, hl⟩ : ∃ l, Lib.bitLen P = l := ⟨_, rfl⟩
  have HL2 := Lib.hid hl
  rw [hl] at HC hb1 hb3 hb4 hb6
  have h1 : (bits .or .u64 0 (P : Int) == 0) = false := h0
  clear hPe hl h0
  by_cases hle : k + l ≤ 64
  · obtain ⟨hd, hd1⟩ := t_up P k l (k : Int) rfl hb1 hle
    have HD := Lib.hid hd
    clear hd
    have ht : decide ((k : Int) ≤ 64 - (l : Int)) = true := by rw [decide_eq_true_iff]; omega
    go_enter Tryd.func16, Tryd.ntmps16
    go_wp2_with fail
    refine (HM.out).mono ?_
    rintro e' w1 ⟨rfl, rfl⟩
    rw [HP.out, HZ.out, HL.out]
    go_wp2_with fail
    refine (HC.out).mono ?_
    rintro e' w1 ⟨rfl, rfl⟩
    go_wp2_with fail
    go_ret
    refine ⟨?_, 0, rfl⟩
    rw [HD.out]
    exact congrArg (fun z => Ending.returned (.int .u64 z)) (shl_end P k hd1)
  · have HD := Lib.hid (t_over P k (l - 1) (k : Int) rfl hb6 (by omega))
    have ht : decide ((k : Int) ≤ 64 - (l : Int)) = false := by rw [decide_eq_false_iff_not]; omega
    go_enter Tryd.func16, Tryd.ntmps16
    go_wp2_with fail
    refine (HM.out).mono ?_
    rintro e' w1 ⟨rfl, rfl⟩
    rw [HP.out, HZ.out, HL.out]
    go_wp2_with fail
    refine (HC.out).mono ?_
    rintro e' w1 ⟨rfl, rfl⟩
    go_wp2_with fail
    go_ret
    exact ⟨by rw [HD.out]; rfl, 0, rfl⟩
/-- price.times -/
theorem times_any (n m : Nat) (e : Int) (w : World) (hn : n < 18446744073709551616) (hm : m < 18446744073709551616) (he : -2000 ≤ e) (he2 : e ≤ 2000) : Calls Tryd.prog 16 #[.int .u64 (n : Int), .int .u64 (m : Int), .int .i64 e] w (Paid (dueN (n * m) e) w) := by
  by_cases hP : n * m = 0
  · exact times_0 n m e w hn hm hP
  rcases Int.lt_or_le e 0 with h | h
  · rcases Int.lt_or_le e (-63) with h1 | h1
    · obtain ⟨k, hk⟩ := Int.eq_ofNat_of_zero_le (show 0 ≤ -64 - e by omega)
      obtain rfl : e = -64 - (k : Int) := by omega
      exact times_low n m k w hn hm hP (by omega)
    · obtain ⟨k, hk⟩ := Int.eq_ofNat_of_zero_le (show 0 ≤ -e by omega)
      obtain rfl : e = -(k : Int) := by omega
      by_cases hz : n * m / 18446744073709551616 / 2 ^ k = 0
      · exact times_mid n m k w hn hm hP (by omega) (by omega) hz
      · exact times_midover n m k w hn hm hP (by omega) (by omega) hz
  · obtain ⟨k, rfl⟩ := Int.eq_ofNat_of_zero_le h
    by_cases hz : n * m / 18446744073709551616 = 0
    · exact times_one n m k w hn hm hP (by omega) hz
    · exact times_high n m k w hn hm (by omega) hz
theorem add_any (a b : Nat) (w : World) (ha : a < 18446744073709551616) (hb : b < 18446744073709551616) : Calls Tryd.prog 12 #[.int .u64 (a : Int), .int .u64 (b : Int)] w fun e w' => e = .returned (.int .u64 (addN a b : Int)) ∧ w = w' := by
  have HO := Lib.hid (over_any a b w ha hb)
  rcases Nat.lt_or_ge 18446744073709551615 (a + b) with h | h
  · have h1 : overB a b = true := decide_eq_true h
    have HA : Hid (addN a b = 18446744073709551615) := by show _ = _; unfold addN; omega
    rw [h1] at HO
    clear h1
    go_enter Tryd.func12, Tryd.ntmps12
    go_wp2_with fail
    refine (HO.out).mono ?_
    rintro e' w1 ⟨rfl, rfl⟩
    go_wp2_with fail
    go_ret
    exact ⟨by rw [HA.out]; rfl, rfl⟩
  · have h1 : overB a b = false := decide_eq_false (by omega)
    have HA : Hid (addN a b = a + b) := by show _ = _; unfold addN; omega
    rw [h1] at HO
    clear h1
    go_enter Tryd.func12, Tryd.ntmps12
    go_wp2_with fail
    refine (HO.out).mono ?_
    rintro e' w1 ⟨rfl, rfl⟩
    go_wp2_with fail
    go_ret
    exact ⟨by rw [HA.out]; go_num, rfl⟩
theorem radd_any (a b : Nat) (w : World) (ha : a < 18446744073709551616) (hb : b < 18446744073709551616) : Calls Tryd.prog 13 #[.int .u64 (a : Int), .int .u64 (b : Int)] w fun e w' => e = .returned (.int .u64 (addN a b : Int)) ∧ w = w' := by
  rcases Nat.lt_or_ge 18446744073709551615 (a + b) with h | h
  · have h1 : decide ((18446744073709551615 : Int) - (b : Int) < (a : Int)) = true := by rw [decide_eq_true_iff]; omega
    have HA : Hid (addN a b = 18446744073709551615) := by show _ = _; unfold addN; omega
    go_enter Tryd.func13, Tryd.ntmps13
    go_wp2_with fail
    go_ret
    exact ⟨by rw [HA.out]; rfl, rfl⟩
  · have h1 : decide ((18446744073709551615 : Int) - (b : Int) < (a : Int)) = false := by rw [decide_eq_false_iff_not]; omega
    have HA : Hid (addN a b = a + b) := by show _ = _; unfold addN; omega
    go_enter Tryd.func13, Tryd.ntmps13
    go_wp2_with fail
    go_ret
    exact ⟨by rw [HA.out]; go_num, rfl⟩
end Go.Proofs.YtgefjlamlgmijaaDoor
