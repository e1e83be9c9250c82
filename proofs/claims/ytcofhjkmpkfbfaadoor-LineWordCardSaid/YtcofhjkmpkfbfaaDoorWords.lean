/-
  Plain: a line's words.
-/
import Derived.Test.YtcofhjkmpkfbfaaDoorStr
namespace Go.Proofs.YtcofhjkmpkfbfaaDoor

/-- The words of what follows the word w. -/
def wsp : List UInt8 → List UInt8 → Option (List (List UInt8))
  | w, [] => if w = [] then none else some [w]
  | w, c :: l => if c = 32 then (if w = [] then none else (wsp [] l).map (w :: ·)) else if c.toNat < 32 then none else wsp (w ++ [c]) l
theorem wsp_end (w : List UInt8) : wsp w [] = if w = [] then none else some [w] := by rw [wsp]
theorem wsp_blank {c : UInt8} (w l : List UInt8) (h : c = 32) : wsp w (c :: l) = if w = [] then none else (wsp [] l).map (w :: ·) := by rw [wsp, if_pos h]
theorem wsp_low {c : UInt8} (w l : List UInt8) (h : c ≠ 32) (h2 : c.toNat < 32) : wsp w (c :: l) = none := by rw [wsp, if_neg h, if_pos h2]
theorem wsp_byte {c : UInt8} (w l : List UInt8) (h : c ≠ 32) (h2 : 32 ≤ c.toNat) : wsp w (c :: l) = wsp (w ++ [c]) l := by rw [wsp, if_neg h, if_neg (by omega)]
/-- The words of a line; none: it is no line. -/
def wordsL (l : List UInt8) : Option (List (List UInt8)) := if l = [] then some [] else wsp [] l
end Go.Proofs.YtcofhjkmpkfbfaaDoor
