import Derived.Test.YtoielghmgjdknaaConcat
import Derived.Test.YtoielghmgjdknaaFits
namespace Go.Proofs.Ytoielghmgjdknaa
open Go.RowKit
set_option linter.unusedVariables false

/-- A number's bytes, of a width; none, if there is no such width. -/
def putB (k : Int) (n : Nat) : List UInt8 := if isW k then leB k.toNat n else []

theorem putB_le (k : Int) (n : Nat) : (putB k n).length ≤ 8 := by
  unfold putB
  split
  · rename_i h
    have := isW_cases h
    simp
    omega
  · simp

theorem put_end (A : Option Addr) (c : Nat) (l lo : List UInt8) (low : Array Value) (k : Nat) (w : World) (h : Bs w w.heap.size A l) (hk : lo.length = k) (hk8 : k ≤ 8) (hl : l.length ≤ 1099511627000)
    (hlow : ∀ (j : Nat) (hj : j < lo.length), low[j]? = some (bv lo[j])) :
    Calls Try.prog 19 #[.slice (some ⟨w.heap.size + 1, 0, none⟩) 2 2]
      ((w.alloc (.cells low 52)).alloc (.cells #[.slice A l.length c, .slice (some ⟨w.heap.size, 0, none⟩) k 8] 22)) (RetO 5 (l ++ lo) w) := by
  subst hk
  obtain ⟨W, hW⟩ : ∃ W, W = (w.alloc (.cells low 52)).alloc (.cells #[.slice A l.length c, .slice (some ⟨w.heap.size, 0, none⟩) lo.length 8] 22) := ⟨_, rfl⟩
  have hb : Below w.heap.size w W := by rw [hW]; exact ((Below.refl _ w).alloc (Nat.le_refl _) _).alloc (by simp) _
  have hsz : W.heap.size = w.heap.size + 2 := by rw [hW]; simp
  have hc1 : ∀ j, W.cell? ⟨w.heap.size, j, none⟩ = low[j]? := fun j => by
    rw [hW, World.cell?_alloc_lt _ _ _ (by simp)]
    exact cell_of_row _ _ _ _ _ (0, 0) (heap_alloc_new w _)
  have hc2 : ∀ j, W.cell? ⟨w.heap.size + 1, j, none⟩ = #[.slice A l.length c, .slice (some ⟨w.heap.size, 0, none⟩) lo.length 8][j]? := fun j => by
    rw [hW, show w.heap.size + 1 = (w.alloc (.cells low 52)).heap.size by simp]
    exact cell_of_row _ _ _ _ _ (0, 0) (heap_alloc_new _ _)
  rw [← hW]
  clear hW
  have hh := concat_any (some ⟨w.heap.size + 1, 0, none⟩) 2 2 [(A, c, l), (some ⟨w.heap.size, 0, none⟩, 8, lo)] W rfl
    (.inr ⟨w.heap.size + 1, 0, rfl, by omega, fun j hj => by
      rw [hc2]
      simp at hj
      rcases j with _ | _ | j
      · rfl
      · rfl
      · omega⟩)
    (fun s hs => by
      simp at hs
      rcases hs with rfl | rfl
      · exact (h.below hb (Nat.le_refl _)).more (by omega)
      · exact .inr ⟨w.heap.size, 0, rfl, by omega, fun j hj => by
          simp at hj
          rw [hc1, Nat.zero_add, hlow j hj]
          simp⟩)
    (by omega) (by simp [cat]; omega)
  refine hh.mono fun e w' hr => ?_
  have := RetO.since hb hr
  simpa [cat] using this

set_option maxHeartbeats 800000 in
/-- octet.Put. -/
theorem put_any (A : Option Addr) (m c : Nat) (l : List UInt8) (k : Int) (n : Nat) (w : World) (hm : l.length = m) (h : Bs w w.heap.size A l) (hl : m ≤ 1099511627000) (hn : n ≤ 18446744073709551615) :
    Calls Try.prog 18 #[.slice A m c, .int .i64 k, .int .u64 n] w (RetO 5 (l ++ putB k n) w) := by
  subst hm
  rcases hw : isW k with _ | _
  · obtain ⟨e1, e2, e3, e4⟩ := isW_not hw
    have b1 : (k == 1) = false := by simpa using e1
    have b2 : (k == 2) = false := by simpa using e2
    have b3 : (k == 4) = false := by simpa using e3
    have b4 : (k == 8) = false := by simpa using e4
    have HS : Hid (sizeI k = 0) := by show _ = _; simp [sizeI, hw]
    have HP : Hid (putB k n = []) := by show _ = _; simp [putB, hw]
    clear hw e1 e2 e3 e4
    go_enter Try.func18, Try.ntmps18
    go_wp2_with fail
    refine (size_any _ _).mono ?_
    rintro e w' ⟨rfl, rfl⟩
    rw [HS.out]
    go_wp2_with fail
    refine (put_end A c l [] _ 0 w h (by simp) (by omega) (by omega) (fun j hj => by simp at hj)).mono ?_
    rintro e w1 ⟨A', n', c', rfl, hh⟩
    go_wp2_with fail
    go_ret
    rw [HP.out]
    exact ⟨A', n', c', rfl, hh⟩
  · rcases isW_cases hw with rfl | rfl | rfl | rfl
    · have HP : Hid (putB 1 n = leB 1 n) := by show _ = _; simp [putB, isW]
      have HL : Hid (leB 1 n = [UInt8.ofNat (n % 256)]) := by show _ = _; simp [leB]
      clear hw
      go_enter Try.func18, Try.ntmps18
      go_wp2_with fail
      refine (size_any _ _).mono ?_
      rintro e w' ⟨rfl, rfl⟩
      rw [show sizeI 1 = 1 from rfl]
      go_wp2_with fail
      refine (put_end A c l (leB 1 n) _ 1 w h (by simp) (by omega) (by omega) ?_).mono ?_
      · rw [HL.out]
        intro j hj
        simp at hj
        rcases j with _ | j
        all_goals first | omega | (simp [bv]; done) | (simp [bv]; omega)
      rintro e w1 ⟨A', n', c', rfl, hh⟩
      go_wp2_with fail
      go_ret
      rw [HP.out]
      exact ⟨A', n', c', rfl, hh⟩
    · have HP : Hid (putB 2 n = leB 2 n) := by show _ = _; simp [putB, isW]
      have HL : Hid (leB 2 n = [UInt8.ofNat (n % 256), UInt8.ofNat (n / 256 % 256)]) := by show _ = _; simp [leB]
      clear hw
      go_enter Try.func18, Try.ntmps18
      go_wp2_with fail
      refine (size_any _ _).mono ?_
      rintro e w' ⟨rfl, rfl⟩
      rw [show sizeI 2 = 2 from rfl]
      go_wp2_with fail
      refine (put_end A c l (leB 2 n) _ 2 w h (by simp) (by omega) (by omega) ?_).mono ?_
      · rw [HL.out]
        intro j hj
        simp at hj
        rcases j with _ | _ | j
        all_goals first | omega | (simp [bv]; done) | (simp [bv]; omega)
      rintro e w1 ⟨A', n', c', rfl, hh⟩
      go_wp2_with fail
      go_ret
      rw [HP.out]
      exact ⟨A', n', c', rfl, hh⟩
    · have HP : Hid (putB 4 n = leB 4 n) := by show _ = _; simp [putB, isW]
      have HL : Hid (leB 4 n = [UInt8.ofNat (n % 256), UInt8.ofNat (n / 256 % 256), UInt8.ofNat (n / 65536 % 256), UInt8.ofNat (n / 16777216 % 256)]) := by show _ = _; simp [leB, Nat.div_div_eq_div_mul]
      clear hw
      go_enter Try.func18, Try.ntmps18
      go_wp2_with fail
      refine (size_any _ _).mono ?_
      rintro e w' ⟨rfl, rfl⟩
      rw [show sizeI 4 = 4 from rfl]
      go_wp2_with fail
      refine (put_end A c l (leB 4 n) _ 4 w h (by simp) (by omega) (by omega) ?_).mono ?_
      · rw [HL.out]
        intro j hj
        simp at hj
        rcases j with _ | _ | _ | _ | j
        all_goals first | omega | (simp [bv]; done) | (simp [bv]; omega)
      rintro e w1 ⟨A', n', c', rfl, hh⟩
      go_wp2_with fail
      go_ret
      rw [HP.out]
      exact ⟨A', n', c', rfl, hh⟩
    · have HP : Hid (putB 8 n = leB 8 n) := by show _ = _; simp [putB, isW]
      have HL : Hid (leB 8 n = [UInt8.ofNat (n % 256), UInt8.ofNat (n / 256 % 256), UInt8.ofNat (n / 65536 % 256), UInt8.ofNat (n / 16777216 % 256), UInt8.ofNat (n / 4294967296 % 256), UInt8.ofNat (n / 1099511627776 % 256), UInt8.ofNat (n / 281474976710656 % 256), UInt8.ofNat (n / 72057594037927936 % 256)]) := by show _ = _; simp [leB, Nat.div_div_eq_div_mul]
      clear hw
      go_enter Try.func18, Try.ntmps18
      go_wp2_with fail
      refine (size_any _ _).mono ?_
      rintro e w' ⟨rfl, rfl⟩
      rw [show sizeI 8 = 8 from rfl]
      go_wp2_with fail
      refine (put_end A c l (leB 8 n) _ 8 w h (by simp) (by omega) (by omega) ?_).mono ?_
      · rw [HL.out]
        intro j hj
        simp at hj
        rcases j with _ | _ | _ | _ | _ | _ | _ | _ | j
        all_goals first | omega | (simp [bv]; done) | (simp [bv]; omega)
      rintro e w1 ⟨A', n', c', rfl, hh⟩
      go_wp2_with fail
      go_ret
      rw [HP.out]
      exact ⟨A', n', c', rfl, hh⟩
end Go.Proofs.Ytoielghmgjdknaa
