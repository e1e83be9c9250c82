/-
  '==' of two arrays of integers.
-/
import Derived.Test.YtoielghmgjdknaaMem
import Derived.ChangeKeysEq
namespace Go.Proofs.Ytoielghmgjdknaa
open Go.RowKit
set_option linter.unusedVariables false

theorem part_cell {P : Program} (w : World) {e : TypeId} {k : IntKind} (he : P.underlying e = some (.int k)) {xs : Array Value} {i : Nat} {v : Value} (h : xs[i]? = some v) : (part e xs i).run P w = .ok v w :=
  run_part_plain w (by simp [Program.plainKey, he]) h

theorem eqItems_ints {P : Program} (w : World) {e : TypeId} {k : IntKind} (he : P.underlying e = some (.int k)) (d : Nat) (zs ys : List Int) (hl : zs.length = ys.length) :
    ∀ is : List Nat, (∀ i ∈ is, i < zs.length) →
      (Op.eqItems (d + 1) e 1 (zs.map (Value.int k)).toArray (ys.map (Value.int k)).toArray is).run P w = .ok (is.all fun i => zs.getD i 0 == ys.getD i 0) w
  | [], _ => by simp [Op.eqItems]
  | i :: is, h => by
    have hi := h i (by simp)
    have hi' : i < ys.length := by omega
    have ih := eqItems_ints w he d zs ys hl is (fun j hj => h j (by simp [hj]))
    have hx : (zs.map (Value.int k)).toArray[i * 1]? = some (.int k zs[i]) := by simp [hi]
    have hy : (ys.map (Value.int k)).toArray[i * 1]? = some (.int k ys[i]) := by simp [hi']
    simp only [Op.eqItems, Sem.run_bind, part_cell w he hx, part_cell w he hy, Result.andThen_ok, run_equalIn_int w d e k k _ _ he]
    have e1 : zs.getD i 0 = zs[i] := by simp [hi]
    have e2 : ys.getD i 0 = ys[i] := by simp [hi']
    rw [List.all_cons, e1, e2]
    cases (zs[i] == ys[i])
    · simp
    · simpa using ih

theorem run_eql_arrI {P : Program} (w : World) {t e : TypeId} {n : Nat} {k : IntKind} (ht : P.underlying t = some (.array n e)) (he : P.underlying e = some (.int k)) (h1 : P.cellsOf e = 1)
    (zs ys : List Int) (hz : zs.length = n) (hy : ys.length = n) :
    (binOp .eql t (.agg (zs.map (Value.int k)).toArray) (.agg (ys.map (Value.int k)).toArray)).run P w = .ok (.bool ((List.range n).all fun i => zs.getD i 0 == ys.getD i 0)) w := by
  obtain ⟨i, hi⟩ := info_of_underlying he
  have h := run_equalIn_array w 9999 (zs.map (Value.int k)).toArray (ys.map (Value.int k)).toArray ht hi
  rw [h1, eqItems_ints w he 9998 zs ys (by omega) (List.range n) (fun j hj => by rw [List.mem_range] at hj; omega)] at h
  simp only [binOp, Op.equal, Sem.run_bind, Sem.run_pure]
  exact congrArg (fun r : Result Bool => r.andThen fun a w' => Result.ok (Value.bool a) w') h
/-- The same as the walk's simp leaves it; of one array with itself. -/
theorem run_equalIn_arrI {P : Program} (w : World) {t e : TypeId} {n : Nat} {k : IntKind} (ht : P.underlying t = some (.array n e)) (he : P.underlying e = some (.int k)) (h1 : P.cellsOf e = 1)
    (zs ys : List Int) (hz : zs.length = n) (hy : ys.length = n) :
    (Op.equalIn 10000 t (.agg (zs.map (Value.int k)).toArray) (.agg (ys.map (Value.int k)).toArray)).run P w = .ok ((List.range n).all fun i => zs.getD i 0 == ys.getD i 0) w := by
  obtain ⟨i, hi⟩ := info_of_underlying he
  have h := run_equalIn_array w 9999 (zs.map (Value.int k)).toArray (ys.map (Value.int k)).toArray ht hi
  rwa [h1, eqItems_ints w he 9998 zs ys (by omega) (List.range n) (fun j hj => by rw [List.mem_range] at hj; omega)] at h
theorem run_equalIn_selfI {P : Program} (w : World) {t e : TypeId} {n : Nat} {k : IntKind} (ht : P.underlying t = some (.array n e)) (he : P.underlying e = some (.int k)) (h1 : P.cellsOf e = 1) (zs : List Int) (hz : zs.length = n) :
    (Op.equalIn 10000 t (.agg (zs.map (Value.int k)).toArray) (.agg (zs.map (Value.int k)).toArray)).run P w = .ok true w := by
  rw [run_equalIn_arrI w ht he h1 zs zs hz hz]
  simp
theorem eql_4 (x0 x1 x2 x3 : UInt8) (w : World) :
    (binOp .eql 38 (.agg #[.int .u8 x0.toNat, .int .u8 x1.toNat, .int .u8 x2.toNat, .int .u8 x3.toNat]) (.agg #[.int .u8 0, .int .u8 0, .int .u8 0, .int .u8 0])).run Try.prog w =
      .ok (.bool (decide (x0 = 0 ∧ x1 = 0 ∧ x2 = 0 ∧ x3 = 0))) w := by
  have h := run_eql_arrI (P := Try.prog) w Try.underlying38 Try.underlying5 (by kernel_rfl) [x0.toNat, x1.toNat, x2.toNat, x3.toNat] [0, 0, 0, 0] rfl rfl
  have hu : ∀ x : UInt8, (((x.toNat : Nat) : Int) == 0) = decide (x = 0) := fun x => by
    rw [Bool.eq_iff_iff]
    simp [← UInt8.toNat_inj]
  have e : ((List.range 4).all fun i => ([x0.toNat, x1.toNat, x2.toNat, x3.toNat] : List Int).getD i 0 == ([0, 0, 0, 0] : List Int).getD i 0) = decide (x0 = 0 ∧ x1 = 0 ∧ x2 = 0 ∧ x3 = 0) := by
    rw [show List.range 4 = [0, 1, 2, 3] from rfl]
    simp [hu]
  rw [e] at h
  exact h
end Go.Proofs.Ytoielghmgjdknaa
