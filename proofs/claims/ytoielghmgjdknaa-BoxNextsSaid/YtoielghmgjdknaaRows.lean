/-
  No cell of these rows narrows 'for every input' (looked for: loops, veiled, ifaces, maps, wideKeys, modest, calm, conditions, laid).
  DERIVED. THE GIVEN ROWS OF THIS SEAT. 4 by the template 'for every input the law returns true; each argument reads behind the call as it read before'; 0 by the template 'total and deterministic' (their statements: YtoielghmgjdknaaTotals.lean).
  GIVEN WITH THE SEED: the statements are not yours to turn. If you find one false, say at which input.
  Laid BY PROGRAM, IN A SANDBOX (cutbox-rows.mjs): the forced cells as the released guide's own fill.sh prints them over the translation 0ed247821101f8ff… (all of the seat's roots in one cut). By AI agents, Wed Nov 11 2026. No macro, syntax, notation, axiom, sorry.
-/
import Derived.Test.YtoielghmgjdknaaChecked
import GoSem.Claim
import GoSem.ClaimJoined
import GoSem.ClaimMapViews
import Derived.JoinedTies
import Derived.KernelRfl
namespace Go.Proofs.Ytoielghmgjdknaa
/- THE CELL 'sum', in the pinned program and in every row, IS THE sha256 OF THE DUMP (.gsa) THAT YtoielghmgjdknaaProg.lean LOADS. Nothing in Lean hashes anything: it is a label: what it is worth is what the hold of that sum in a sandbox is worth. -/
noncomputable def Try.pinned : Pinned := { name := "ytoielghmgjdknaa", sum := "0ed247821101f8ffd3b5172229daeaf31aa88ea2e7299c2c7b7c9a0b937697a6", checked := Try.checked }
namespace Rows
def none {H : Type} : Left H := { results := [], args := [] }

/-- 'taximeterlaw12.BoxPuts': WHATEVER THE INPUT: true; the input reads as it did. -/
def boxPutsSpec : ChangeSpec := { name := "boxPuts", fn := fun _ => fun
  | [d1, d2] => { results := [.lit (.bool true)], args := [d1, d2] }
  | _ => none }
def boxPutsRow : OpenClaim := { program := "ytoielghmgjdknaa", sum := "0ed247821101f8ffd3b5172229daeaf31aa88ea2e7299c2c7b7c9a0b937697a6", func := "taximeter/taximeterlaw12.BoxPuts", spec := "boxPuts", apart := false }
def BoxPutsSaid : Prop := boxPutsRow.holds Try.pinned (OpenSpec.ofChange boxPutsSpec)

/-- ITS FALSE NEIGHBOUR: 'it returns false'. Refute it at one input. -/
def boxPutsWrong : ChangeSpec := { name := "boxPuts", fn := fun _ => fun
  | [d1, d2] => { results := [.lit (.bool false)], args := [d1, d2] }
  | _ => none }
def BoxPutsWrongFalsely : Prop := boxPutsRow.holds Try.pinned (OpenSpec.ofChange boxPutsWrong)

/-- 'taximeterlaw12.BoxNexts': WHATEVER THE INPUT: true; the input reads as it did. -/
def boxNextsSpec : ChangeSpec := { name := "boxNexts", fn := fun _ => fun
  | [d1, d2] => { results := [.lit (.bool true)], args := [d1, d2] }
  | _ => none }
def boxNextsRow : OpenClaim := { program := "ytoielghmgjdknaa", sum := "0ed247821101f8ffd3b5172229daeaf31aa88ea2e7299c2c7b7c9a0b937697a6", func := "taximeter/taximeterlaw12.BoxNexts", spec := "boxNexts", unfollowed := true, recurses := true, apart := false }
def BoxNextsSaid : Prop := boxNextsRow.holds Try.pinned (OpenSpec.ofChange boxNextsSpec)

/-- ITS FALSE NEIGHBOUR: 'it returns false'. Refute it at one input. -/
def boxNextsWrong : ChangeSpec := { name := "boxNexts", fn := fun _ => fun
  | [d1, d2] => { results := [.lit (.bool false)], args := [d1, d2] }
  | _ => none }
def BoxNextsWrongFalsely : Prop := boxNextsRow.holds Try.pinned (OpenSpec.ofChange boxNextsWrong)

/-- 'taximeterlaw12.BoxCut': WHATEVER THE INPUT: true; the input reads as it did. -/
def boxCutSpec : ChangeSpec := { name := "boxCut", fn := fun _ => fun
  | [d1, d2] => { results := [.lit (.bool true)], args := [d1, d2] }
  | _ => none }
def boxCutRow : OpenClaim := { program := "ytoielghmgjdknaa", sum := "0ed247821101f8ffd3b5172229daeaf31aa88ea2e7299c2c7b7c9a0b937697a6", func := "taximeter/taximeterlaw12.BoxCut", spec := "boxCut", unfollowed := true, recurses := true, apart := false }
def BoxCutSaid : Prop := boxCutRow.holds Try.pinned (OpenSpec.ofChange boxCutSpec)

/-- ITS FALSE NEIGHBOUR: 'it returns false'. Refute it at one input. -/
def boxCutWrong : ChangeSpec := { name := "boxCut", fn := fun _ => fun
  | [d1, d2] => { results := [.lit (.bool false)], args := [d1, d2] }
  | _ => none }
def BoxCutWrongFalsely : Prop := boxCutRow.holds Try.pinned (OpenSpec.ofChange boxCutWrong)

/-- 'taximeterlaw12.BoxSpoilt': WHATEVER THE INPUT: true; the input reads as it did. -/
def boxSpoiltSpec : ChangeSpec := { name := "boxSpoilt", fn := fun _ => fun
  | [d1, d2, d3] => { results := [.lit (.bool true)], args := [d1, d2, d3] }
  | _ => none }
def boxSpoiltRow : OpenClaim := { program := "ytoielghmgjdknaa", sum := "0ed247821101f8ffd3b5172229daeaf31aa88ea2e7299c2c7b7c9a0b937697a6", func := "taximeter/taximeterlaw12.BoxSpoilt", spec := "boxSpoilt", apart := false }
def BoxSpoiltSaid : Prop := boxSpoiltRow.holds Try.pinned (OpenSpec.ofChange boxSpoiltSpec)

/-- ITS FALSE NEIGHBOUR: 'it returns false'. Refute it at one input. -/
def boxSpoiltWrong : ChangeSpec := { name := "boxSpoilt", fn := fun _ => fun
  | [d1, d2, d3] => { results := [.lit (.bool false)], args := [d1, d2, d3] }
  | _ => none }
def BoxSpoiltWrongFalsely : Prop := boxSpoiltRow.holds Try.pinned (OpenSpec.ofChange boxSpoiltWrong)

/- THE SECOND FORM. 'bulk': how many values and letters a reading holds, each counted each time it is reached (what is shared counts as often as it is met; a slice's spare places count too). A statement '..UptoSaid' is the law's where the arguments, and the package variables that the reading takes, are together of bulk at most 1048576: NARROWER than '..Said'. Prove '..Said' where nothing that the law and all that it calls make is longer than what came in: it says more and counts as full. Else prove '..UptoSaid'. A law counts once. -/
mutual
def uptoBulk {H : Type} : DataW H → Nat
  | .lit (.string bytes) => bytes.length + 1
  | .lit _ => 1
  | .nil => 1
  | .ptr d => uptoBulk d + 1
  | .slice elems spare => uptoBulkAll elems + uptoBulkAll spare + 1
  | .agg parts => uptoBulkAll parts + 1
  | .iface _ d => uptoBulk d + 1
  | .map entries => uptoBulkEntries entries + 1
  | .held _ => 1
def uptoBulkAll {H : Type} : List (DataW H) → Nat
  | [] => 0
  | d :: r => uptoBulk d + uptoBulkAll r
def uptoBulkEntries {H : Type} : List (Lit × DataW H) → Nat
  | [] => 0
  | x :: r => uptoBulkEntry x + uptoBulkEntries r
def uptoBulkEntry {H : Type} : Lit × DataW H → Nat
  | (.string bytes, d) => bytes.length + uptoBulk d + 1
  | (_, d) => uptoBulk d + 1
 end
def uptoSmall : (H : Type) → List (DataW H) → Bool := fun _ ds => decide (uptoBulkAll ds ≤ 1048576)
def OpenSpec.upto (s : _root_.Go.ChangeSpec) : _root_.Go.OpenSpec := { _root_.Go.OpenSpec.ofChange s with cond := some uptoSmall }

/-- 'taximeterlaw12.BoxPuts', WHERE WHAT IT READS IS OF BULK AT MOST 1048576: true; the input reads as it did. -/
def boxPutsUptoRow : OpenClaim := { program := "ytoielghmgjdknaa", sum := "0ed247821101f8ffd3b5172229daeaf31aa88ea2e7299c2c7b7c9a0b937697a6", func := "taximeter/taximeterlaw12.BoxPuts", spec := "boxPuts", apart := false, narrowed := true }
def BoxPutsUptoSaid : Prop := boxPutsUptoRow.holds Try.pinned (OpenSpec.upto boxPutsSpec)

/-- 'taximeterlaw12.BoxNexts', WHERE WHAT IT READS IS OF BULK AT MOST 1048576: true; the input reads as it did. -/
def boxNextsUptoRow : OpenClaim := { program := "ytoielghmgjdknaa", sum := "0ed247821101f8ffd3b5172229daeaf31aa88ea2e7299c2c7b7c9a0b937697a6", func := "taximeter/taximeterlaw12.BoxNexts", spec := "boxNexts", unfollowed := true, recurses := true, apart := false, narrowed := true }
def BoxNextsUptoSaid : Prop := boxNextsUptoRow.holds Try.pinned (OpenSpec.upto boxNextsSpec)

/-- 'taximeterlaw12.BoxCut', WHERE WHAT IT READS IS OF BULK AT MOST 1048576: true; the input reads as it did. -/
def boxCutUptoRow : OpenClaim := { program := "ytoielghmgjdknaa", sum := "0ed247821101f8ffd3b5172229daeaf31aa88ea2e7299c2c7b7c9a0b937697a6", func := "taximeter/taximeterlaw12.BoxCut", spec := "boxCut", unfollowed := true, recurses := true, apart := false, narrowed := true }
def BoxCutUptoSaid : Prop := boxCutUptoRow.holds Try.pinned (OpenSpec.upto boxCutSpec)

/-- 'taximeterlaw12.BoxSpoilt', WHERE WHAT IT READS IS OF BULK AT MOST 1048576: true; the input reads as it did. -/
def boxSpoiltUptoRow : OpenClaim := { program := "ytoielghmgjdknaa", sum := "0ed247821101f8ffd3b5172229daeaf31aa88ea2e7299c2c7b7c9a0b937697a6", func := "taximeter/taximeterlaw12.BoxSpoilt", spec := "boxSpoilt", apart := false, narrowed := true }
def BoxSpoiltUptoSaid : Prop := boxSpoiltUptoRow.holds Try.pinned (OpenSpec.upto boxSpoiltSpec)

end Rows
end Go.Proofs.Ytoielghmgjdknaa
