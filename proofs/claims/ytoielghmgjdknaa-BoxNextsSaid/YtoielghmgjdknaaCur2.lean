import Derived.Test.YtoielghmgjdknaaCur
namespace Go.Proofs.Ytoielghmgjdknaa
open Go.RowKit
set_option linter.unusedVariables false

theorem q22 (w : World) (a : Option Addr) (n c n' c' : Nat) : (binOp .eql 22 (.slice a n c) (.slice none n' c')).run Try.prog w = .ok (.bool a.isNone) w := Lib.run_eql_slice_nil w _ _ a n c n' c' Try.underlying22

set_option maxHeartbeats 800000 in
/-- bytes.Clone. -/
theorem clone_any (A : Option Addr) (n c : Nat) (l : List UInt8) (B : Nat) (w : World) (hn : Hid (l.length = n)) (h : Bs w B A l) (hB : B ≤ w.heap.size) (hl : n ≤ 140737488355328) :
    Calls Try.prog 33 #[.slice A n c] w (RetO 5 l w) := by
  have h1 := bv_one l
  have HLM : Hid ((l.map bv).length = n) := by show _ = _; rw [List.length_map]; exact hn.out
  have hq := q22
  rcases A with _ | a
  · have hl0 : l = [] := by
      rcases h with h | ⟨b, o, e, _⟩
      · simpa using h
      · simp at e
    have HL0 := Lib.hid hl0
    clear hl0
    go_enter Try.func33, Try.ntmps33
    go_wp2
    go_ret
    rw [HL0.out]
    exact RetO.of rfl (Own.nil _ _ _) (Below.refl _ _)
  · go_enter Try.func33, Try.ntmps33
    go_wp2_with (at_builtin; refine wp_app (w.alloc (.cells #[] 5)) rfl (.tmp 5) (.tmp 6) _ rfl w.heap.size 5 u8E (.slice (some ⟨w.heap.size, 0, none⟩) 0 0) [] rfl (World.ownsRow_made w #[] 0 (Nat.le_refl _) (Nat.zero_le _) rfl) _ _ _ _ _ rfl HLM.out (Bs.alloc h hB _) h1 ?c1 ?c2 ?c3 ?_)
    case c1 => simp [maxLen]; omega
    case c2 => simp; omega
    case c3 => simp
    intro v1 w1 hown1 hg1 _
    have hb1 : Below w.heap.size w w1 := ((Below.refl _ w).alloc (Nat.le_refl _) _).trans (below_app (World.ownsRow_made w #[] 0 (Nat.le_refl _) (Nat.zero_le _) rfl) hg1 (by simp))
    clear hg1
    go_wp2
    go_ret
    exact RetO.of rfl hown1 hb1

/-- A new cursor. -/
def NewCur (l : List UInt8) (w : World) (x : Ending) (w' : World) : Prop := ∃ g, x = .returned (.pointer (some ⟨g, 0, none⟩)) ∧ w.heap.size ≤ g ∧ Cur w' g l 0 0 ∧ Below w.heap.size w w'

set_option maxHeartbeats 800000 in
theorem newCursor_any (A : Option Addr) (n c : Nat) (l : List UInt8) (B : Nat) (w : World) (hn : Hid (l.length = n)) (h : Bs w B A l) (hB : B ≤ w.heap.size) (hl : n ≤ 140737488355328) :
    Calls Try.prog 30 #[.slice A n c] w (NewCur l w) := by
  go_enter Try.func30, Try.ntmps30
  go_wp2_with fail
  refine (clone_any A n c l B w hn h hB hl).mono ?_
  rintro e w1 ⟨A1, n1, c1, rfl, hn1, hown, hc1, hc2, hbs, hb⟩
  go_wp2_with fail
  go_ret
  refine ⟨w1.heap.size, rfl, hb.size, ⟨A1, n1, c1, hn1, heap_alloc_new _ _, (Bs.alloc hbs (Nat.le_refl _) _), Nat.zero_le _, hc1, by unfold maxLen at hc2; omega⟩, hb.alloc hb.size _⟩

/-- The number of a width that comes. -/
theorem take_width (l : List UInt8) (k e : Nat) (q : Int) : (takeF l k e (sizeI q)).1.length = 0 ∨ (takeF l k e (sizeI q)).1.length = 1 ∨ (takeF l k e (sizeI q)).1.length = 2 ∨ (takeF l k e (sizeI q)).1.length = 4 ∨ (takeF l k e (sizeI q)).1.length = 8 := by
  unfold takeF
  split
  · simp
  · split
    · simp
    · rename_i h1 h2
      have hs : sizeI q = 0 ∨ sizeI q = 1 ∨ sizeI q = 2 ∨ sizeI q = 4 ∨ sizeI q = 8 := by
        unfold sizeI
        split
        · rename_i hw
          have := isW_cases hw
          omega
        · exact .inl rfl
      simp only [List.length_take, List.length_drop]
      omega

set_option maxHeartbeats 800000 in
/-- Cursor.Number. -/
theorem cnumber_any {w : World} {g : Nat} {l : List UInt8} {k e : Nat} (q : Int) (h : Cur w g l k e) :
    Calls Try.prog 31 #[.pointer (some ⟨g, 0, none⟩), .int .i64 q] w fun x w' =>
      x = .returned (.int .u64 ((leV (takeF l k e (sizeI q)).1 : Nat) : Int)) ∧ Cur w' g l (takeF l k e (sizeI q)).2.1 (takeF l k e (sizeI q)).2.2 ∧ w.grownBy w' (some g) ∧ w.heap.size = w'.heap.size := by
  have hs : sizeI q ≤ 8 := by
    unfold sizeI
    split
    · rename_i hw
      have := isW_cases hw
      omega
    · omega
  obtain ⟨z, hz⟩ : ∃ z, sizeI q = z := ⟨_, rfl⟩
  have HT := Lib.hid (take_width l k e q)
  rw [hz] at hs HT ⊢
  have HZ := Lib.hid hz
  clear hz
  go_enter Try.func31, Try.ntmps31
  go_wp2_with fail
  refine (size_any _ _).mono ?_
  rintro x w' ⟨rfl, rfl⟩
  rw [HZ.out]
  go_wp2_with fail
  refine (take_any z h (by omega)).mono ?_
  rintro x w1 ⟨A, m, c, rfl, hm, hbs, hcur, hg, hsz⟩
  go_wp2_with fail
  refine (value_any A m c _ _ _ hm.out hbs (by rw [← hm.out]; exact HT.out)).mono ?_
  rintro x w2 ⟨rfl, nq, rfl⟩
  go_wp2_with fail
  go_ret
  exact ⟨rfl, hcur, grown_drewN hg nq, hsz⟩

/-- What Done tells. -/
def doneE (l : List UInt8) (k e : Nat) : Nat := if e = 0 ∧ k < l.length then 2 else e

end Go.Proofs.Ytoielghmgjdknaa
