/-
  A disk's List, and bytes.Clone.
-/
import Derived.Test.YtjdjidlopmanbaaPDsk8
import Derived.Test.YtjdjidlopmanbaaIter
import Derived.Laws.BytesArg
namespace Go.Proofs.Ytjdjidlopmanbaa
open Go.RowKit Go.Maps Go.Sort Go.Shelf
set_option linter.unusedVariables false

theorem encStr_bl (s : ByteArray) : encStr (bl s) = .string s := by
  unfold encStr bl
  simp

set_option maxRecDepth 100000 in
set_option maxHeartbeats 1000000 in
theorem pdskList_any {w : World} {O : Nat → Prop} {d : Nat} {st : DSt} {mb : Nat} {L : List Pil} (h : PDsk w O d st mb L) :
    Calls Try.prog 36 #[dptr d] w fun e w' => ∃ v, e = .returned v ∧ Own w' w.heap.size 9 v (L.map fun x => .string x.name) ∧ Below w.heap.size w w' := by
  have hm := h.map_
  have c1 : w.cell? ⟨d, 1, none⟩ = some (.map (some mb)) := h.blk.cellAt 1 (show 1 < 7 by decide)
  have hris := hm.rising
  have hcnt : Maps.size (DP L) ≤ 1024 := by rw [size_DP]; exact h.count
  have HC := Lib.hid (fun W (hW : W.ownsMap Try.prog 9 gP mb L.length (DP L)) => Try.slices_Sorted_keys_43_44 mb L.length (DP L) gP W hW (by unfold maxLen; omega) (by omega))
  have HM : Hid (w.ownsMap Try.prog 9 gP mb L.length (DP L)) := hm
  have HRIS := Lib.hid hris
  clear h hris hcnt hm
  refine (callsIn_wide (n := 6)).1 ?_
  have hfK : Fence.wide.fn 44 := trivial
  have hfS : Fence.wide.fn 43 := trivial
  refine callsIn_of_wp Try.func36 rfl trivial ?_ rfl
  simp only [Try.ntmps36, List.size_toArray, List.length_cons, List.length_nil, Nat.reduceAdd, Nat.reduceSub, Array.replicate_succ, Array.replicate_zero, List.push_toArray, List.append_toArray, List.nil_append, List.cons_append]
  gi_wp2_with (first
    | (gi_at_call 44; refine ((Try.maps_Keys_44 _ _).mono ?_); rintro e w' ⟨rfl, rfl⟩)
    | (gi_at_call 43; refine ((HC.out _ HM.out).mono ?_); rintro e w' ⟨v, ss, rfl, hS, hrow, hnil, hb⟩))
  go_ret
  have e1 := names_sortedP HRIS.out hS
  have e2 : ss.length = L.length := by
    have := congrArg List.length e1
    rw [List.length_mergeSort, List.length_map] at this
    exact this
  rw [e1, e2, List.map_map] at hrow
  have hs1 : w.heap.size ≤ (w.alloc (.cells #[.map (some mb)] 59)).heap.size := by show _ ≤ (w.heap.push _).size; simp
  have e3 : L.map (encStr ∘ fun f => bl f.name) = L.map fun x => Value.string x.name := List.map_congr_left fun x _ => encStr_bl x.name
  rw [e3] at hrow
  exact ⟨v, rfl, Own.mono (e := 9) (xs := L.map fun x => Value.string x.name) (by unfold Own; rw [List.length_map]; exact hrow) hs1, ((Below.refl _ w).alloc (Nat.le_refl _) _).trans (hb.mono hs1)⟩

theorem q22P (w : World) (a : Option Addr) (n c n' c' : Nat) : (binOp .eql 41 (.slice a n c) (.slice none n' c')).run Try.prog w = .ok (.bool a.isNone) w := Lib.run_eql_slice_nil w _ _ a n c n' c' Try.underlying41
set_option maxRecDepth 100000 in
set_option maxHeartbeats 800000 in
set_option maxRecDepth 100000 in
/-- bytes.Clone. -/
theorem cloneP_any (A : Option Addr) (n c : Nat) (l : List UInt8) (B : Nat) (w : World) (hn : Hid (l.length = n)) (h : Bs w B A l) (hB : B ≤ w.heap.size) (hl : n ≤ 140737488355328) :
    Calls Try.prog 37 #[.slice A n c] w (RetO 5 l w) := by
  have h1 := bv_one l
  have HLM : Hid ((l.map bv).length = n) := by show _ = _; rw [List.length_map]; exact hn.out
  have hq := q22P
  rcases A with _ | a
  · have hl0 : l = [] := by
      rcases h with h | ⟨b, o, e, _⟩
      · simpa using h
      · simp at e
    have HL0 := Lib.hid hl0
    clear hl0
    go_enter Try.func37, Try.ntmps37
    go_wp2
    go_ret
    rw [HL0.out]
    exact RetO.of rfl (Own.nil _ _ _) (Below.refl _ _)
  · go_enter Try.func37, Try.ntmps37
    go_wp2_with (at_builtin; refine wp_app (w.alloc (.cells #[] 5)) rfl (.tmp 5) (.tmp 6) _ rfl w.heap.size 5 u8E (.slice (some ⟨w.heap.size, 0, none⟩) 0 0) [] rfl (World.ownsRow_made w #[] 0 (Nat.le_refl _) (Nat.zero_le _) rfl) _ _ _ _ _ rfl HLM.out (Bs.alloc h hB _) h1 ?c1 ?c2 ?c3 ?_)
    case c1 => simp [maxLen]; omega
    case c2 => simp; omega
    case c3 => simp
    intro v1 w1 hown1 hg1 _
    have hb1 : Below w.heap.size w w1 := ((Below.refl _ w).alloc (Nat.le_refl _) _).trans (below_app (World.ownsRow_made w #[] 0 (Nat.le_refl _) (Nat.zero_le _) rfl) hg1 (by simp))
    clear hg1
    go_wp2
    go_ret
    exact RetO.of rfl hown1 hb1
end Go.Proofs.Ytjdjidlopmanbaa
