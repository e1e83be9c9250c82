/-
  Package sha, and its reference: numbers that are turned right; the state at first; the constants.
-/
import Derived.Test.YtfcffafmcihamaaDoorShaN
import Derived.Test.YtfcffafmcihamaaDoorMem
import Derived.Laws.BitsAllLaws
namespace Go.Proofs.YtfcffafmcihamaaDoor
open Go.RowKit
set_option linter.unusedVariables false

def uv (x : Nat) : Value := .int .u32 (x : Int)
/-- The turns that there are. -/
def IsT (n : Nat) : Prop := n = 2 ∨ n = 6 ∨ n = 7 ∨ n = 11 ∨ n = 13 ∨ n = 17 ∨ n = 18 ∨ n = 19 ∨ n = 22 ∨ n = 25

/-- A quiet call, as a region asks it. -/
theorem stl {P : Program} {f : FuncId} {args : Array Value} {w : World} {v : Value} (h : Calls P f args w fun e w' => e = .returned v ∧ w = w') : Calls P f args w fun e w'' => e = .returned v ∧ w'' = w :=
  h.mono fun _ _ ⟨a, b⟩ => ⟨a, b.symm⟩

theorem qst {P : Program} {f : FuncId} {args : Array Value} {w : World} {n : Nat} {v : Value} (h : Calls P f args (w.drewN n) fun e w' => e = .returned v ∧ w.drewN n = w') :
    Calls P f args (w.drewN n) fun e w'' => e = .returned v ∧ ∃ m, w'' = w.drewN m := h.mono fun _ _ ⟨a, b⟩ => ⟨a, n, b.symm⟩

theorem rot_or (n P Q x : Nat) (hP : 2 ^ n = P) (hQ : 2 ^ (32 - n) = Q) (hx : x < 4294967296) : bits .or .u32 ((x : Int) / (P : Int)) ((x : Int) * (Q : Int) % 4294967296) = ((rotr n x : Nat) : Int) := by
  subst hP hQ
  have e1 : ((x : Int) / ((2 ^ n : Nat) : Int)) = ((x / 2 ^ n : Nat) : Int) := by rw [Int.natCast_ediv]
  have e2 : ((x : Int) * ((2 ^ (32 - n) : Nat) : Int) % 4294967296) = ((x * 2 ^ (32 - n) % 4294967296 : Nat) : Int) := by rw [Int.natCast_emod, Int.natCast_mul]; rfl
  rw [e1, e2, u32_or_nat _ _ (Nat.lt_of_le_of_lt (Nat.div_le_self _ _) hx) (Nat.mod_lt _ (by omega))]
  rfl
theorem or_rot (n P Q x : Nat) (hP : 2 ^ n = P) (hQ : 2 ^ (32 - n) = Q) (hx : x < 4294967296) : bits .or .u32 ((x : Int) * (Q : Int) % 4294967296) ((x : Int) / (P : Int)) = ((rotr n x : Nat) : Int) := by
  subst hP hQ
  have e1 : ((x : Int) / ((2 ^ n : Nat) : Int)) = ((x / 2 ^ n : Nat) : Int) := by rw [Int.natCast_ediv]
  have e2 : ((x : Int) * ((2 ^ (32 - n) : Nat) : Int) % 4294967296) = ((x * 2 ^ (32 - n) % 4294967296 : Nat) : Int) := by rw [Int.natCast_emod, Int.natCast_mul]; rfl
  rw [e1, e2, u32_or_nat _ _ (Nat.mod_lt _ (by omega)) (Nat.lt_of_le_of_lt (Nat.div_le_self _ _) hx), Nat.or_comm]
  rfl

set_option maxHeartbeats 400000 in
theorem turn_2 (x : Nat) (w : World) (hx : x < 4294967296) :
    Calls Tryd.prog 28 #[.int .u32 x, .int .u64 2] w fun e w' => e = .returned (.int .u32 (rotr 2 x : Nat)) ∧ w = w' := by
  have HR := Lib.hid (rot_or 2 4 1073741824 x rfl rfl hx)
  go_enter Tryd.func28, Tryd.ntmps28
  go_wp2
  go_ret
  exact ⟨by rw [← HR.out]; rfl, rfl⟩
set_option maxHeartbeats 400000 in
theorem rotl_2 (x : Nat) (w : World) (hx : x < 4294967296) :
    Calls Tryd.prog 33 #[.int .u32 x, .int .i64 (-2)] w fun e w' => e = .returned (.int .u32 (rotr 2 x : Nat)) ∧ w = w' := by
  have HR := Lib.hid (or_rot 2 4 1073741824 x rfl rfl hx)
  have hk : bits .and .u64 (IntKind.u64.wrap (-2)) 31 = 30 := by decide +kernel
  go_enter Tryd.func33, Tryd.ntmps33
  go_wp2
  go_ret
  exact ⟨by rw [← HR.out]; rfl, rfl⟩
set_option maxHeartbeats 400000 in
theorem right_2 (x : Nat) (w : World) (hx : x < 4294967296) :
    Calls Tryd.prog 32 #[.int .u32 x, .int .i64 2] w fun e w' => e = .returned (.int .u32 (rotr 2 x : Nat)) ∧ w = w' := by
  go_enter Tryd.func32, Tryd.ntmps32
  go_wp2_with fail
  refine (rotl_2 _ _ hx).mono ?_
  rintro e w' ⟨rfl, rfl⟩
  go_wp2_with fail
  go_ret
  exact ⟨rfl, rfl⟩

set_option maxHeartbeats 400000 in
theorem turn_6 (x : Nat) (w : World) (hx : x < 4294967296) :
    Calls Tryd.prog 28 #[.int .u32 x, .int .u64 6] w fun e w' => e = .returned (.int .u32 (rotr 6 x : Nat)) ∧ w = w' := by
  have HR := Lib.hid (rot_or 6 64 67108864 x rfl rfl hx)
  go_enter Tryd.func28, Tryd.ntmps28
  go_wp2
  go_ret
  exact ⟨by rw [← HR.out]; rfl, rfl⟩
set_option maxHeartbeats 400000 in
theorem rotl_6 (x : Nat) (w : World) (hx : x < 4294967296) :
    Calls Tryd.prog 33 #[.int .u32 x, .int .i64 (-6)] w fun e w' => e = .returned (.int .u32 (rotr 6 x : Nat)) ∧ w = w' := by
  have HR := Lib.hid (or_rot 6 64 67108864 x rfl rfl hx)
  have hk : bits .and .u64 (IntKind.u64.wrap (-6)) 31 = 26 := by decide +kernel
  go_enter Tryd.func33, Tryd.ntmps33
  go_wp2
  go_ret
  exact ⟨by rw [← HR.out]; rfl, rfl⟩
set_option maxHeartbeats 400000 in
theorem right_6 (x : Nat) (w : World) (hx : x < 4294967296) :
    Calls Tryd.prog 32 #[.int .u32 x, .int .i64 6] w fun e w' => e = .returned (.int .u32 (rotr 6 x : Nat)) ∧ w = w' := by
  go_enter Tryd.func32, Tryd.ntmps32
  go_wp2_with fail
  refine (rotl_6 _ _ hx).mono ?_
  rintro e w' ⟨rfl, rfl⟩
  go_wp2_with fail
  go_ret
  exact ⟨rfl, rfl⟩

set_option maxHeartbeats 400000 in
theorem turn_7 (x : Nat) (w : World) (hx : x < 4294967296) :
    Calls Tryd.prog 28 #[.int .u32 x, .int .u64 7] w fun e w' => e = .returned (.int .u32 (rotr 7 x : Nat)) ∧ w = w' := by
  have HR := Lib.hid (rot_or 7 128 33554432 x rfl rfl hx)
  go_enter Tryd.func28, Tryd.ntmps28
  go_wp2
  go_ret
  exact ⟨by rw [← HR.out]; rfl, rfl⟩
set_option maxHeartbeats 400000 in
theorem rotl_7 (x : Nat) (w : World) (hx : x < 4294967296) :
    Calls Tryd.prog 33 #[.int .u32 x, .int .i64 (-7)] w fun e w' => e = .returned (.int .u32 (rotr 7 x : Nat)) ∧ w = w' := by
  have HR := Lib.hid (or_rot 7 128 33554432 x rfl rfl hx)
  have hk : bits .and .u64 (IntKind.u64.wrap (-7)) 31 = 25 := by decide +kernel
  go_enter Tryd.func33, Tryd.ntmps33
  go_wp2
  go_ret
  exact ⟨by rw [← HR.out]; rfl, rfl⟩
set_option maxHeartbeats 400000 in
theorem right_7 (x : Nat) (w : World) (hx : x < 4294967296) :
    Calls Tryd.prog 32 #[.int .u32 x, .int .i64 7] w fun e w' => e = .returned (.int .u32 (rotr 7 x : Nat)) ∧ w = w' := by
  go_enter Tryd.func32, Tryd.ntmps32
  go_wp2_with fail
  refine (rotl_7 _ _ hx).mono ?_
  rintro e w' ⟨rfl, rfl⟩
  go_wp2_with fail
  go_ret
  exact ⟨rfl, rfl⟩

set_option maxHeartbeats 400000 in
theorem turn_11 (x : Nat) (w : World) (hx : x < 4294967296) :
    Calls Tryd.prog 28 #[.int .u32 x, .int .u64 11] w fun e w' => e = .returned (.int .u32 (rotr 11 x : Nat)) ∧ w = w' := by
  have HR := Lib.hid (rot_or 11 2048 2097152 x rfl rfl hx)
  go_enter Tryd.func28, Tryd.ntmps28
  go_wp2
  go_ret
  exact ⟨by rw [← HR.out]; rfl, rfl⟩
set_option maxHeartbeats 400000 in
theorem rotl_11 (x : Nat) (w : World) (hx : x < 4294967296) :
    Calls Tryd.prog 33 #[.int .u32 x, .int .i64 (-11)] w fun e w' => e = .returned (.int .u32 (rotr 11 x : Nat)) ∧ w = w' := by
  have HR := Lib.hid (or_rot 11 2048 2097152 x rfl rfl hx)
  have hk : bits .and .u64 (IntKind.u64.wrap (-11)) 31 = 21 := by decide +kernel
  go_enter Tryd.func33, Tryd.ntmps33
  go_wp2
  go_ret
  exact ⟨by rw [← HR.out]; rfl, rfl⟩
set_option maxHeartbeats 400000 in
theorem right_11 (x : Nat) (w : World) (hx : x < 4294967296) :
    Calls Tryd.prog 32 #[.int .u32 x, .int .i64 11] w fun e w' => e = .returned (.int .u32 (rotr 11 x : Nat)) ∧ w = w' := by
  go_enter Tryd.func32, Tryd.ntmps32
  go_wp2_with fail
  refine (rotl_11 _ _ hx).mono ?_
  rintro e w' ⟨rfl, rfl⟩
  go_wp2_with fail
  go_ret
  exact ⟨rfl, rfl⟩

set_option maxHeartbeats 400000 in
theorem turn_13 (x : Nat) (w : World) (hx : x < 4294967296) :
    Calls Tryd.prog 28 #[.int .u32 x, .int .u64 13] w fun e w' => e = .returned (.int .u32 (rotr 13 x : Nat)) ∧ w = w' := by
  have HR := Lib.hid (rot_or 13 8192 524288 x rfl rfl hx)
  go_enter Tryd.func28, Tryd.ntmps28
  go_wp2
  go_ret
  exact ⟨by rw [← HR.out]; rfl, rfl⟩
set_option maxHeartbeats 400000 in
theorem rotl_13 (x : Nat) (w : World) (hx : x < 4294967296) :
    Calls Tryd.prog 33 #[.int .u32 x, .int .i64 (-13)] w fun e w' => e = .returned (.int .u32 (rotr 13 x : Nat)) ∧ w = w' := by
  have HR := Lib.hid (or_rot 13 8192 524288 x rfl rfl hx)
  have hk : bits .and .u64 (IntKind.u64.wrap (-13)) 31 = 19 := by decide +kernel
  go_enter Tryd.func33, Tryd.ntmps33
  go_wp2
  go_ret
  exact ⟨by rw [← HR.out]; rfl, rfl⟩
set_option maxHeartbeats 400000 in
theorem right_13 (x : Nat) (w : World) (hx : x < 4294967296) :
    Calls Tryd.prog 32 #[.int .u32 x, .int .i64 13] w fun e w' => e = .returned (.int .u32 (rotr 13 x : Nat)) ∧ w = w' := by
  go_enter Tryd.func32, Tryd.ntmps32
  go_wp2_with fail
  refine (rotl_13 _ _ hx).mono ?_
  rintro e w' ⟨rfl, rfl⟩
  go_wp2_with fail
  go_ret
  exact ⟨rfl, rfl⟩

set_option maxHeartbeats 400000 in
theorem turn_17 (x : Nat) (w : World) (hx : x < 4294967296) :
    Calls Tryd.prog 28 #[.int .u32 x, .int .u64 17] w fun e w' => e = .returned (.int .u32 (rotr 17 x : Nat)) ∧ w = w' := by
  have HR := Lib.hid (rot_or 17 131072 32768 x rfl rfl hx)
  go_enter Tryd.func28, Tryd.ntmps28
  go_wp2
  go_ret
  exact ⟨by rw [← HR.out]; rfl, rfl⟩
set_option maxHeartbeats 400000 in
theorem rotl_17 (x : Nat) (w : World) (hx : x < 4294967296) :
    Calls Tryd.prog 33 #[.int .u32 x, .int .i64 (-17)] w fun e w' => e = .returned (.int .u32 (rotr 17 x : Nat)) ∧ w = w' := by
  have HR := Lib.hid (or_rot 17 131072 32768 x rfl rfl hx)
  have hk : bits .and .u64 (IntKind.u64.wrap (-17)) 31 = 15 := by decide +kernel
  go_enter Tryd.func33, Tryd.ntmps33
  go_wp2
  go_ret
  exact ⟨by rw [← HR.out]; rfl, rfl⟩
set_option maxHeartbeats 400000 in
theorem right_17 (x : Nat) (w : World) (hx : x < 4294967296) :
    Calls Tryd.prog 32 #[.int .u32 x, .int .i64 17] w fun e w' => e = .returned (.int .u32 (rotr 17 x : Nat)) ∧ w = w' := by
  go_enter Tryd.func32, Tryd.ntmps32
  go_wp2_with fail
  refine (rotl_17 _ _ hx).mono ?_
  rintro e w' ⟨rfl, rfl⟩
  go_wp2_with fail
  go_ret
  exact ⟨rfl, rfl⟩

set_option maxHeartbeats 400000 in
theorem turn_18 (x : Nat) (w : World) (hx : x < 4294967296) :
    Calls Tryd.prog 28 #[.int .u32 x, .int .u64 18] w fun e w' => e = .returned (.int .u32 (rotr 18 x : Nat)) ∧ w = w' := by
  have HR := Lib.hid (rot_or 18 262144 16384 x rfl rfl hx)
  go_enter Tryd.func28, Tryd.ntmps28
  go_wp2
  go_ret
  exact ⟨by rw [← HR.out]; rfl, rfl⟩
set_option maxHeartbeats 400000 in
theorem rotl_18 (x : Nat) (w : World) (hx : x < 4294967296) :
    Calls Tryd.prog 33 #[.int .u32 x, .int .i64 (-18)] w fun e w' => e = .returned (.int .u32 (rotr 18 x : Nat)) ∧ w = w' := by
  have HR := Lib.hid (or_rot 18 262144 16384 x rfl rfl hx)
  have hk : bits .and .u64 (IntKind.u64.wrap (-18)) 31 = 14 := by decide +kernel
  go_enter Tryd.func33, Tryd.ntmps33
  go_wp2
  go_ret
  exact ⟨by rw [← HR.out]; rfl, rfl⟩
set_option maxHeartbeats 400000 in
theorem right_18 (x : Nat) (w : World) (hx : x < 4294967296) :
    Calls Tryd.prog 32 #[.int .u32 x, .int .i64 18] w fun e w' => e = .returned (.int .u32 (rotr 18 x : Nat)) ∧ w = w' := by
  go_enter Tryd.func32, Tryd.ntmps32
  go_wp2_with fail
  refine (rotl_18 _ _ hx).mono ?_
  rintro e w' ⟨rfl, rfl⟩
  go_wp2_with fail
  go_ret
  exact ⟨rfl, rfl⟩

set_option maxHeartbeats 400000 in
theorem turn_19 (x : Nat) (w : World) (hx : x < 4294967296) :
    Calls Tryd.prog 28 #[.int .u32 x, .int .u64 19] w fun e w' => e = .returned (.int .u32 (rotr 19 x : Nat)) ∧ w = w' := by
  have HR := Lib.hid (rot_or 19 524288 8192 x rfl rfl hx)
  go_enter Tryd.func28, Tryd.ntmps28
  go_wp2
  go_ret
  exact ⟨by rw [← HR.out]; rfl, rfl⟩
set_option maxHeartbeats 400000 in
theorem rotl_19 (x : Nat) (w : World) (hx : x < 4294967296) :
    Calls Tryd.prog 33 #[.int .u32 x, .int .i64 (-19)] w fun e w' => e = .returned (.int .u32 (rotr 19 x : Nat)) ∧ w = w' := by
  have HR := Lib.hid (or_rot 19 524288 8192 x rfl rfl hx)
  have hk : bits .and .u64 (IntKind.u64.wrap (-19)) 31 = 13 := by decide +kernel
  go_enter Tryd.func33, Tryd.ntmps33
  go_wp2
  go_ret
  exact ⟨by rw [← HR.out]; rfl, rfl⟩
set_option maxHeartbeats 400000 in
theorem right_19 (x : Nat) (w : World) (hx : x < 4294967296) :
    Calls Tryd.prog 32 #[.int .u32 x, .int .i64 19] w fun e w' => e = .returned (.int .u32 (rotr 19 x : Nat)) ∧ w = w' := by
  go_enter Tryd.func32, Tryd.ntmps32
  go_wp2_with fail
  refine (rotl_19 _ _ hx).mono ?_
  rintro e w' ⟨rfl, rfl⟩
  go_wp2_with fail
  go_ret
  exact ⟨rfl, rfl⟩

set_option maxHeartbeats 400000 in
theorem turn_22 (x : Nat) (w : World) (hx : x < 4294967296) :
    Calls Tryd.prog 28 #[.int .u32 x, .int .u64 22] w fun e w' => e = .returned (.int .u32 (rotr 22 x : Nat)) ∧ w = w' := by
  have HR := Lib.hid (rot_or 22 4194304 1024 x rfl rfl hx)
  go_enter Tryd.func28, Tryd.ntmps28
  go_wp2
  go_ret
  exact ⟨by rw [← HR.out]; rfl, rfl⟩
set_option maxHeartbeats 400000 in
theorem rotl_22 (x : Nat) (w : World) (hx : x < 4294967296) :
    Calls Tryd.prog 33 #[.int .u32 x, .int .i64 (-22)] w fun e w' => e = .returned (.int .u32 (rotr 22 x : Nat)) ∧ w = w' := by
  have HR := Lib.hid (or_rot 22 4194304 1024 x rfl rfl hx)
  have hk : bits .and .u64 (IntKind.u64.wrap (-22)) 31 = 10 := by decide +kernel
  go_enter Tryd.func33, Tryd.ntmps33
  go_wp2
  go_ret
  exact ⟨by rw [← HR.out]; rfl, rfl⟩
set_option maxHeartbeats 400000 in
theorem right_22 (x : Nat) (w : World) (hx : x < 4294967296) :
    Calls Tryd.prog 32 #[.int .u32 x, .int .i64 22] w fun e w' => e = .returned (.int .u32 (rotr 22 x : Nat)) ∧ w = w' := by
  go_enter Tryd.func32, Tryd.ntmps32
  go_wp2_with fail
  refine (rotl_22 _ _ hx).mono ?_
  rintro e w' ⟨rfl, rfl⟩
  go_wp2_with fail
  go_ret
  exact ⟨rfl, rfl⟩

set_option maxHeartbeats 400000 in
theorem turn_25 (x : Nat) (w : World) (hx : x < 4294967296) :
    Calls Tryd.prog 28 #[.int .u32 x, .int .u64 25] w fun e w' => e = .returned (.int .u32 (rotr 25 x : Nat)) ∧ w = w' := by
  have HR := Lib.hid (rot_or 25 33554432 128 x rfl rfl hx)
  go_enter Tryd.func28, Tryd.ntmps28
  go_wp2
  go_ret
  exact ⟨by rw [← HR.out]; rfl, rfl⟩
set_option maxHeartbeats 400000 in
theorem rotl_25 (x : Nat) (w : World) (hx : x < 4294967296) :
    Calls Tryd.prog 33 #[.int .u32 x, .int .i64 (-25)] w fun e w' => e = .returned (.int .u32 (rotr 25 x : Nat)) ∧ w = w' := by
  have HR := Lib.hid (or_rot 25 33554432 128 x rfl rfl hx)
  have hk : bits .and .u64 (IntKind.u64.wrap (-25)) 31 = 7 := by decide +kernel
  go_enter Tryd.func33, Tryd.ntmps33
  go_wp2
  go_ret
  exact ⟨by rw [← HR.out]; rfl, rfl⟩
set_option maxHeartbeats 400000 in
theorem right_25 (x : Nat) (w : World) (hx : x < 4294967296) :
    Calls Tryd.prog 32 #[.int .u32 x, .int .i64 25] w fun e w' => e = .returned (.int .u32 (rotr 25 x : Nat)) ∧ w = w' := by
  go_enter Tryd.func32, Tryd.ntmps32
  go_wp2_with fail
  refine (rotl_25 _ _ hx).mono ?_
  rintro e w' ⟨rfl, rfl⟩
  go_wp2_with fail
  go_ret
  exact ⟨rfl, rfl⟩

/-- ref.turn. -/
theorem turn_any (n x : Nat) (w : World) (hn : IsT n) (hx : x < 4294967296) :
    Calls Tryd.prog 28 #[.int .u32 x, .int .u64 n] w fun e w' => e = .returned (.int .u32 (rotr n x : Nat)) ∧ w = w' := by
  rcases hn with rfl | rfl | rfl | rfl | rfl | rfl | rfl | rfl | rfl | rfl
  · exact turn_2 x w hx
  · exact turn_6 x w hx
  · exact turn_7 x w hx
  · exact turn_11 x w hx
  · exact turn_13 x w hx
  · exact turn_17 x w hx
  · exact turn_18 x w hx
  · exact turn_19 x w hx
  · exact turn_22 x w hx
  · exact turn_25 x w hx
/-- sha.right. -/
theorem right_any (n x : Nat) (w : World) (hn : IsT n) (hx : x < 4294967296) :
    Calls Tryd.prog 32 #[.int .u32 x, .int .i64 n] w fun e w' => e = .returned (.int .u32 (rotr n x : Nat)) ∧ w = w' := by
  rcases hn with rfl | rfl | rfl | rfl | rfl | rfl | rfl | rfl | rfl | rfl
  · exact right_2 x w hx
  · exact right_6 x w hx
  · exact right_7 x w hx
  · exact right_11 x w hx
  · exact right_13 x w hx
  · exact right_17 x w hx
  · exact right_18 x w hx
  · exact right_19 x w hx
  · exact right_22 x w hx
  · exact right_25 x w hx
end Go.Proofs.YtfcffafmcihamaaDoor
