/-
  A result that is a struct in a cell, beside a plain one.
-/
import Derived.Test.YtolpggmcjengcaaDoorBlk
import Derived.Laws.ResultCell
namespace Go.Proofs.YtolpggmcjengcaaDoor
open Go.RowKit
set_option linter.unusedVariables false

/-- What a function answers whose first result is a struct in a cell, and its second a plain one. -/
theorem result_rec {P : Program} {ty : TypeId} {fs : Array Field} {n : Nat} (hu : P.underlying ty = some (.struct fs)) (hs : (P.info? ty).map (·.size) = some n) {fn : Func} {p u : Tmp} (h : fn.results = #[.cell p ty, .tmp u]) (tmps : Array Value)
    {w : World} {g : Nat} {t' : TypeId} {vs : List Value} (hg : Bk w g t' vs) (hn : vs.length = n) (hp : tmps.getD p undef = .pointer (some ⟨g, 0, none⟩)) :
    (results fn tmps).run P w = .ok (.tuple #[.agg vs.toArray, tmps.getD u undef]) w := by
  rw [results_cell_tmp h, hp]
  have e : (asAddr (.pointer (some ⟨g, 0, none⟩))).run P w = .ok ⟨g, 0, none⟩ w := by
    simp [asAddr]
  rw [e, Result.andThen_ok, run_loadVar_row w g t' ty vs.toArray (0, 0) _ hg hu rfl (by rw [hs]; simp [hn]), Result.andThen_ok]
end Go.Proofs.YtolpggmcjengcaaDoor
