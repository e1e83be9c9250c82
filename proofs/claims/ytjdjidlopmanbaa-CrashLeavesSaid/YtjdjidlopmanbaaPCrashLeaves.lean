/-
  The statement CrashLeaves: for every input the call returns true, and each argument reads afterwards as it read before. No condition.
-/
import Derived.Test.YtjdjidlopmanbaaRows
import Derived.Test.YtjdjidlopmanbaaAll10
import Derived.WalkKit
import Derived.ProofKit
import Derived.OpenShut
import Derived.ShutString
import Derived.ChangeOld
import Derived.Below
namespace Go.Proofs.Ytjdjidlopmanbaa.crashLeaves
open Go.ChangeShapes Go.WideShapes Go.ChangeAt Go.RowKit
open Go.ChangeMaps (open_string shut_string)
set_option linter.unusedVariables false

theorem own : ownKnob Try.prog.godebug = none := by kernel_rfl
theorem laidOut : laidOutB Try.prog = true := by kernel_rfl
theorem walk (zs0 : List Int) (a1 : Option Addr) (len1 cap1 : Nat) (a2 : Int) (w : World) (hz0 : zs0.length = 2) (w0 : ∀ z ∈ zs0, (Lit.int .i64 z).wf = true) (w1 : IsRecs [isNum .i64, isText, isText, isRowF .u8] w a1 len1 cap1) (w2 : (Lit.int .u64 a2).wf = true) :
    Calls Try.prog 3 #[.agg (zs0.map (Value.int .i64)).toArray, .slice a1 len1 cap1, .int .u64 a2] w fun e w' => e = .returned (.bool true) ∧ Below w.heap.size w w' := by
  obtain ⟨l, hl⟩ := ops_of w1
  have hp := Go.bounds_u64 w2
  obtain ⟨p, rfl⟩ : ∃ p : Nat, a2 = (p : Int) := ⟨a2.toNat, by omega⟩
  match zs0, hz0, w0 with
  | [n0, n1], _, w0 =>
    exact crashLeaves_over at_law (awake10_over at_law calls_law) n0 n1 p hl (w0 n0 (by simp)) (w0 n1 (by simp)) (by omega)

set_option maxRecDepth 100000 in
theorem lifted (os : Os) (started : os.Started) (H : Type) (enc : TypeId × Value → H) :
    ReturnsInHanded {} Try.checked os 3 .any (Rows.crashLeavesSpec.pre6 enc Try.prog Try.f3 Rows.crashLeavesRow.domain false) (Rows.crashLeavesSpec.post enc Try.prog Try.f3 false true false false) := by
  refine returnsInHanded_of_change (C := Try.checked) own started (by kernel_rfl) Try.func3
    (ChangeSpec.witness6 (enc := enc) (C := Try.checked) false ⟨#[], #[.agg #[.int .i64 0, .int .i64 0], .slice none 0 0, .int .u64 0], []⟩ 8 (by kernel_rfl) (by kernel_rfl) (by kernel_rfl) (by kernel_rfl)) ?_
  intro W base args ds gs before hval0 hW hcnd _
  have hval : ∀ (j : Nat) t v, Try.f3.params[j]? = some t → args[j]? = some v → Value.okWide Try.prog W .any base t v := hval0
  have hW' := hW
  obtain ⟨p, q, hA0, hV, rfl, hfz, hnd⟩ := hW
  have hA : DataW.TrodAll enc Try.prog W 0 (fun _ => true) true Try.f3.params.toList args.toList ds p := hA0
  rw [Try.params3] at hA hval
  obtain ⟨v0, vs0, d0, ds0, p0, q0, hargs, rfl, rfl, h0, r0⟩ := trodAll_cons hA
  obtain ⟨v1, vs1, d1, ds1, p1, q1, rfl, rfl, rfl, h1, r1⟩ := trodAll_cons r0
  obtain ⟨v2, vs2, d2, ds2, p2, q2, rfl, rfl, rfl, h2, r2⟩ := trodAll_cons r1
  obtain ⟨rfl, rfl, rfl⟩ := trodAll_nil r2
  obtain rfl : args = #[v0, v1, v2] := by cases args; simp_all
  obtain ⟨rfl, rfl⟩ := trodVars_none hV
  have k0 := h0
  have lt0 : ∀ x ∈ p0, x.block < W.heap.size := by obtain ⟨m, hm⟩ := k0; exact DataW.trod_lt m _ _ _ hm
  obtain ⟨zs0, hz0, w0, rfl⟩ := open_arrI Try.underlying22 Try.underlying3 (by kernel_rfl) (by kernel_rfl) (hval 0 22 v0 rfl rfl) h0
  obtain ⟨a1, len1, cap1, rfl⟩ := okWide_slice Try.underlying23 (hval 1 23 v1 rfl rfl)
  have k1 := h1
  have lt1 : ∀ x ∈ p1, x.block < W.heap.size := by obtain ⟨m, hm⟩ := k1; exact DataW.trod_lt m _ _ _ hm
  have w1 : IsRecs [isNum .i64, isText, isText, isRowF .u8] W a1 len1 cap1 := open_recs Try.underlying23 Try.underlying46 (by kernel_rfl) (by kernel_rfl) (by decide) [isNum .i64, isText, isText, isRowF .u8] rfl
    (fun j f p hf hp fuel v x hx => by
        match j, hf, hp with
        | 0, hf, hp => obtain rfl := Option.some.inj hf; obtain rfl := Option.some.inj hp; exact fld_num Try.underlying3 fuel v x hx
        | 1, hf, hp => obtain rfl := Option.some.inj hf; obtain rfl := Option.some.inj hp; exact fld_text Try.underlying9 fuel v x hx
        | 2, hf, hp => obtain rfl := Option.some.inj hf; obtain rfl := Option.some.inj hp; exact fld_text Try.underlying9 fuel v x hx
        | 3, hf, hp => obtain rfl := Option.some.inj hf; obtain rfl := Option.some.inj hp; exact fld_row (fun _ => rfl) Try.underlying41 Try.underlying5 (by kernel_rfl) fuel v x hx
        | n + 4, hf, hp => simp at hp) h1
  obtain ⟨a2, rfl, rfl, rfl, w2⟩ := open_int Try.underlying24 (hval 2 24 v2 rfl rfl) h2
  clear hA0 hval0
  refine (walk zs0 a1 len1 cap1 a2 W hz0 w0 w1 w2).mono fun e W' ⟨he, bel⟩ => ?_
  subst he
  exact ⟨_, rfl, _, _, _, [], _, [], hW', trodAll_mk1 (shut_bool Try.underlying4 _), (trodAll_cons_mk (Below.trod laidOut (by kernel_rfl) (of_decide_eq_true (by kernel_rfl)) k0 bel lt0) (trodAll_cons_mk (Below.trod laidOut (by kernel_rfl) (of_decide_eq_true (by kernel_rfl)) k1 bel lt1) (trodAll_cons_mk (shut_int Try.underlying24 w2) trodAll_mk0))), rfl, bel.frame _, fun h => by cases h⟩

theorem over : Rows.crashLeavesRow.holds Try.pinned (OpenSpec.ofChange Rows.crashLeavesSpec) :=
  OpenClaim.holds_of_wide 3 Try.f3 rfl rfl rfl rfl rfl rfl rfl ⟨rfl, rfl, rfl, rfl, rfl⟩ rfl rfl rfl rfl rfl (by kernel_rfl) Try.func3 (by kernel_rfl)
    (of_decide_eq_true (by kernel_rfl)) (by unfold Func.isWrapper; first | (rw [if_pos (by decide +kernel)]; kernel_rfl) | (rw [if_neg (by decide +kernel)]; exact ⟨rfl, rfl⟩))
    (fun os started H enc _ => lifted os started H enc)

/-- The statement. -/
theorem proved : Rows.CrashLeavesSaid := over
end Go.Proofs.Ytjdjidlopmanbaa.crashLeaves
