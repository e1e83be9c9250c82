/-
  A parameter that is a struct of fields of one cell each.
-/
import Derived.Test.YtolpggmcjengcaaDoorRecs
namespace Go.Proofs.YtolpggmcjengcaaDoor
open Go.ChangeShapes Go.WideShapes Go.RowKit Go.Deep
set_option linter.unusedVariables false

theorem open_rec {H : Type} {enc : TypeId × Value → H} {P : Program} {w : World} {base b0 : Nat} {spare : Nat → Bool} {held : Bool} {r : Reach} {u : TypeId} {fs : Array Field} {v : Value} {d : DataW H} {q : List MemPlace}
    (hu : P.underlying u = some (.struct fs)) (hone : oneCellFields P fs = true) (hC : P.cellsOf u = fs.size) (ps : List (World → Value → Prop)) (hps : ps.length = fs.size)
    (hf : ∀ (j : Nat) f p, fs[j]? = some f → ps[j]? = some p → ∀ fuel v x, DataW.trod enc P w base spare held fuel f.type [v] = some x → p w v)
    (hv : Value.okWide P w r b0 u v) (hd : DataW.Trod enc P w base spare held u v d q) :
    ∃ vs : List Value, vs.length = ps.length ∧ (∀ (j : Nat) p v, ps[j]? = some p → vs[j]? = some v → p w v) ∧ v = .agg vs.toArray := by
  simp only [Value.okWide, hu] at hv
  obtain ⟨cs, rfl, hn, -⟩ := hv
  rw [hC] at hn
  obtain ⟨fuel, hf0⟩ := hd
  simp only [Value.cells] at hf0
  obtain ⟨ys, n', _, _, _, hyl, hfs⟩ := DataW.trod_struct hu hf0
  have hcl : cs.toList.length = fs.size := by simpa using hn
  refine ⟨cs.toList, by rw [hcl, hps], fun j p v hp hv => ?_, by simp⟩
  have hj : j < fs.size := by
    have := (List.getElem?_eq_some_iff.1 hp).1
    omega
  have hjf : fs[j]? = some fs[j] := Array.getElem?_eq_getElem hj
  obtain ⟨ho, hk⟩ := hone_of hone j _ hjf
  have h1 := hfs j _ hjf
  rw [ho, hk] at h1
  have hjl : j < cs.toList.length := by omega
  have e : (cs.toList.drop j).take 1 = [v] := by
    rw [List.drop_eq_getElem_cons hjl, List.take_succ_cons, List.take_zero]
    rw [List.getElem?_eq_getElem hjl] at hv
    rw [Option.some.inj hv]
  rw [e, List.getElem?_eq_getElem (by omega)] at h1
  exact hf j _ p hjf hp _ v _ h1
end Go.Proofs.YtolpggmcjengcaaDoor
