/-
  strconv.FormatUint at base 10; name.Digits.
-/
import Derived.Test.YtgmocagdhdbpnaaDoorName3
import Derived.Test.YtgmocagdhdbpnaaDoorShelf
import Derived.Lib.ItoaMem
import Derived.Sort.Grow
import Derived.Lib.Walk
namespace Go.Proofs.YtgmocagdhdbpnaaDoor
open Go.RowKit
set_option linter.unusedVariables false

theorem decL_lib (u : Nat) : Lib.decDigits u = decL u := by
  induction u using Nat.strongRecOn with
  | _ u ih =>
    rcases Nat.lt_or_ge u 10 with h | h
    · rw [decL_one h, Lib.decDigits, dif_pos h]
    · rw [decL_more h, Lib.decDigits, dif_neg (by omega), ih (u / 10) (by omega)]
/-- The new block's bytes are a row of zeros. -/
theorem zeros_row (w : World) (T : TypeId) (n : Nat) (hs : n ≤ 24) : Sort.Holds (fun (b : UInt8) => Value.int .u8 (b.toNat : Int)) (w.alloc (.cells Lib.zeros24 T)) w.heap.size 0 (Array.replicate n (0 : UInt8)) := fun j hj => by
  have hj' : j < n := by simpa using hj
  refine ⟨?_, World.frozen?_alloc_new _ _ _ _⟩
  rw [World.cell?_alloc_new, Lib.zeros24_at _ (by omega), getElem!_pos _ j hj]
  simp
theorem row_below (w : World) (o : Obj) (dk : Array UInt8) (k : Nat) : Below w.heap.size w ((Sort.putRow (fun (b : UInt8) => Value.int .u8 (b.toNat : Int)) (w.alloc o) w.heap.size 0 dk).drewN k) := by
  rw [Sort.alloc_eq_grow]
  obtain ⟨os', _, e⟩ := Sort.putRow_grow_new (fun (b : UInt8) => Value.int .u8 (b.toNat : Int)) w #[o] w.heap.size 0 dk (Nat.le_refl _)
  rw [e]
  have h : Below w.heap.size w (Sort.grow w os') := ⟨rfl, rfl, rfl, by rw [Sort.size_grow w os']; omega, fun _ hk => Sort.heap_grow_old w os' hk⟩
  exact below_drewN h k

def Tens (w : World) : Prop := Lib.TabIs Tryd.prog w "internal/strconv.uint64pow10" .u64 Lib.pow10Tab

set_option maxHeartbeats 3200000 in
set_option maxRecDepth 100000 in
theorem iformat_any (u : Nat) (w : World) (hu : u < 18446744073709551616) (ht : Tens w) : Calls Tryd.prog 29 #[.int .u64 (u : Int), .int .i64 10] w (SaysB (decL u) w) := by
  have HD := Lib.hid (decL_lib u)
  rcases Nat.lt_or_ge u 100 with h | h
  · have g1 : decide ((u : Int) < 100) = true := by rw [decide_eq_true_iff]; omega
    have g2 : IntKind.i64.wrap (u : Int) = (u : Int) := IntWalk.i64_in _ (by omega)
    go_enter Tryd.func29, Tryd.ntmps29
    go_wp2_with (go_at_call 38; refine (Tryd.internal_strconv_small u h _).mono ?_; rintro e w' ⟨rfl, rfl⟩)
    go_ret
    exact ⟨_, rfl, by rw [HD.out]; exact bl_mk _, Below.refl _ _⟩
  · have g1 : decide ((u : Int) < 100) = false := by rw [decide_eq_false_iff_not]; omega
    have hn20 : Lib.nDigits u ≤ 20 := by have := Lib.numDigits_eq u (by omega) hu; split at this <;> omega
    have hH0 := zeros_row w 59 (Lib.nDigits u) (by omega)
    have hfmt := Tryd.internal_strconv_formatBase10 w.heap.size 0 24 u (Array.replicate (Lib.nDigits u) 0) (w.alloc (.cells Lib.zeros24 59)) hH0 (by rw [Array.size_replicate]; exact Lib.lt_pow_nDigits u) hu (by rw [Array.size_replicate]; omega)
    rw [Array.size_replicate] at hfmt
    have HH0 := Lib.hid hH0
    have hlen := Lib.decDigits_length u
    obtain ⟨n, hn⟩ : ∃ n, Lib.nDigits u = n := ⟨_, rfl⟩
    have HN := Lib.hid hn
    rw [hn] at hn20 hfmt hlen HH0
    have hnd := Tryd.internal_strconv_numDigits u (by omega) hu (w.alloc (.cells Lib.zeros24 59)) (Lib.tabIs_alloc ht _)
    rw [hn] at hnd
    have hal : Tryd.prog.arrayLen 59 = 24 := by kernel_rfl
    have hsl : ∀ W, (Instr.sliceAt 59 (.pointer (some ⟨w.heap.size, 0, none⟩)) none (some (.int .i64 (n : Int))) none).run Tryd.prog W = .ok (.slice (some ⟨w.heap.size, 0, none⟩) n 24) W := fun W => by
      rw [run_sliceAt_array_h W 59 ⟨w.heap.size, 0, none⟩ (by kernel_rfl) .i64 (n : Int) (by omega) (by rw [hal]; omega)]
      go_simp
    have HL := Lib.hid hlen
    clear hH0 hal hn hlen
    go_enter Tryd.func29, Tryd.ntmps29
    go_wp2_with (go_at_call 39; refine hnd.mono ?_; rintro e w' ⟨rfl, rfl⟩)
    refine hfmt.mono ?_
    rintro e w2 ⟨rfl, k, v', dk, rfl, hF⟩
    have hb := row_below w (.cells Lib.zeros24 59) dk k
    have hv : Bs ((Sort.putRow (fun (b : UInt8) => Value.int .u8 (b.toNat : Int)) (w.alloc (.cells Lib.zeros24 59)) w.heap.size 0 dk).drewN k) (w.heap.size + 1) (some ⟨w.heap.size, 0, none⟩) (Lib.decDigits u) := by
      refine .inr ⟨w.heap.size, 0, rfl, by omega, fun j hj => ?_⟩
      rw [List.length_map] at hj
      rw [World.cell?_drewN, List.getElem_map, Lib.row_is_numeral (by rw [HN.out]; exact hF) j hj]
      exact Sort.cell?_putRow (fun (b : UInt8) => Value.int .u8 (b.toNat : Int)) _ w.heap.size 0 _ dk HH0.out (by rw [hF.size, Array.size_replicate]) j (by rw [hF.size]; rw [HL.out] at hj; exact hj)
    obtain ⟨s, hs1, hs2⟩ := run_string ((Sort.putRow (fun (b : UInt8) => Value.int .u8 (b.toNat : Int)) (w.alloc (.cells Lib.zeros24 59)) w.heap.size 0 dk).drewN k) 36 9 5 (some ⟨w.heap.size, 0, none⟩) n 24 (Lib.decDigits u) _ Tryd.underlying36 Tryd.underlying5 Tryd.underlying9 HL.out hv
    have HS := Lib.hid (hs2.trans HD.out)
    clear hs2 hv
    go_wp2_with fail
    go_ret
    exact ⟨s, rfl, HS.out, hb⟩
theorem format_any (u : Nat) (w : World) (hu : u < 18446744073709551616) (ht : Tens w) : Calls Tryd.prog 19 #[.int .u64 (u : Int), .int .i64 10] w (SaysB (decL u) w) := by
  go_enter Tryd.func19, Tryd.ntmps19
  go_wp2_with (go_at_call 29; refine (iformat_any u w hu ht).mono ?_; rintro e w1 ⟨s, rfl, hs, hb⟩; have HS := Lib.hid hs; clear hs)
  go_ret
  exact ⟨s, rfl, HS.out, hb⟩
/-- name.Digits -/
theorem ndigits_any (u : Nat) (w : World) (hu : u < 18446744073709551616) (ht : Tens w) : Calls Tryd.prog 7 #[.int .u64 (u : Int)] w (SaysB (decL u) w) := by
  go_enter Tryd.func7, Tryd.ntmps7
  go_wp2_with (go_at_call 19; refine (format_any u w hu ht).mono ?_; rintro e w1 ⟨s, rfl, hs, hb⟩; have HS := Lib.hid hs; clear hs)
  go_ret
  exact ⟨s, rfl, HS.out, hb⟩
end Go.Proofs.YtgmocagdhdbpnaaDoor
