/-
  Package name: the digits of bytes.
-/
import Derived.Test.YtgmocagdhdbpnaaName2
import Derived.Laws.BytesString
import Derived.Laws.Cells
import Derived.IntWalk
import Derived.Deep.RegionHeld3
import Derived.Test.YtgmocagdhdbpnaaBlk2
namespace Go.Proofs.Ytgmocagdhdbpnaa
open Go.RowKit
set_option linter.unusedVariables false

theorem push_all (l : List UInt8) (s : ByteArray) : bl ((l.map (fun x : UInt8 => (x.toNat : Int))).foldl (fun r n => r.push (UInt8.ofNat n.toNat)) s) = bl s ++ l := by
  induction l generalizing s with
  | nil => simp
  | cons x l ih =>
    rw [List.map_cons, List.foldl_cons, ih]
    have : bl (s.push (UInt8.ofNat ((x.toNat : Int)).toNat)) = bl s ++ [x] := by
      unfold bl
      simp [ByteArray.push]
    rw [this, List.append_assoc]
    rfl
/-- string(b) -/
theorem run_string (w : World) (src dst e : TypeId) {P : Program} (A : Option Addr) (n c : Nat) (l : List UInt8) (B : Nat) (hs : P.underlying src = some (.slice e)) (he : P.underlying e = some (.int .u8)) (hd : P.underlying dst = some .string)
    (hn : l.length = n) (hv : Bs w B A l) : ∃ s : ByteArray, (convert src dst (.slice A n c)).run P w = .ok (.string s) w ∧ bl s = l := by
  subst hn
  rw [run_convert_bytes_string w src dst e A _ c hs he hd]
  rcases Nat.eq_zero_or_pos l.length with h0 | h0
  · obtain rfl := List.eq_nil_of_length_eq_zero h0
    refine ⟨ByteArray.empty, ?_, rfl⟩
    cases A <;> simp [Conv.bytesToString, loadCells, loadCellsFrom, Sem.run_pure]
  · obtain ⟨b, o, rfl, _, hc⟩ := hv.at_ h0
    refine ⟨_, run_bytesToString w ⟨b, o, none⟩ l.length c (l.map fun x => (x.toNat : Int)) ?_, by rw [push_all]; rfl⟩
    have := run_loadCells_list (P := P) (w := w) ⟨b, o, none⟩ (l.map bv) (fun j v hj => by
      obtain ⟨h1, rfl⟩ := List.getElem?_eq_some_iff.1 hj
      have e : ({ block := b, off := o, spot := none } : Addr).add j = ⟨b, o + j, none⟩ := by unfold Addr.add; split <;> simp_all
      rw [e, hc j (by simpa using h1), List.getElem_map]
      rfl)
    rw [List.length_map] at this
    rw [this, List.map_map]
    rfl
theorem hexc_at (i : Nat) (h : i < 16) : (⟨#[48, 49, 50, 51, 52, 53, 54, 55, 56, 57, 97, 98, 99, 100, 101, 102]⟩ : ByteArray)[i]'h = hexD i := by
  have all : ∀ j : Fin 16, (⟨#[48, 49, 50, 51, 52, 53, 54, 55, 56, 57, 97, 98, 99, 100, 101, 102]⟩ : ByteArray)[j.val]'j.isLt = hexD j.val := by decide
  exact all ⟨i, h⟩
/-- A text is answered; memory is the call's own. -/
def SaysB (l : List UInt8) (w : World) (x : Ending) (w' : World) : Prop := ∃ s : ByteArray, x = .returned (.string s) ∧ bl s = l ∧ Below w.heap.size w w'

theorem hexc_run (W : World) (p : Nat) (hp : p < 16) : (Instr.index 9 (.string ⟨#[48, 49, 50, 51, 52, 53, 54, 55, 56, 57, 97, 98, 99, 100, 101, 102]⟩) (.int .u8 (p : Int))).run Try.prog W = .ok (.int .u8 ((hexD p).toNat : Int)) W := by
  have hi : (0 : Int) ≤ (p : Int) ∧ (p : Int) < (((⟨#[48, 49, 50, 51, 52, 53, 54, 55, 56, 57, 97, 98, 99, 100, 101, 102]⟩ : ByteArray).size : Nat) : Int) := ⟨by omega, by show (p : Int) < 16; omega⟩
  rw [run_index_string _ _ _ _ _ Try.underlying9, dif_pos hi]
  simp only [Int.toNat_natCast]
  rw [hexc_at p hp]
theorem and15 (x : Nat) (h : x < 256) : bits .and .u8 (x : Int) 15 = ((x % 16 : Nat) : Int) := by
  have all : ∀ a : Fin 256, bits .and .u8 (a.val : Int) 15 = ((a.val % 16 : Nat) : Int) := by decide +kernel
  exact all ⟨x, h⟩
set_option maxHeartbeats 800000 in
theorem nhex_any (A : Option Addr) (n c : Nat) (l : List UInt8) (w : World) (hn : Hid (l.length = n)) (hc : n ≤ c) (hl : n ≤ 65536) (hv : Bs w w.heap.size A l) : Calls Try.prog 6 #[.slice A n c] w (SaysB (hexL l) w) := by
  rcases Nat.eq_zero_or_pos n with h0 | h0
  · have HF : Hid (hexL l = [45]) := by
      show _ = _
      rw [List.eq_nil_of_length_eq_zero (hn.out.trans h0)]
      rfl
    subst h0
    go_enter Try.func6, Try.ntmps6
    go_wp2_with fail
    go_ret
    exact ⟨_, rfl, by rw [HF.out]; rfl, Below.refl _ _⟩
  · have HF : Hid (hexL l = l.flatMap hex2) := by
      show _ = _
      unfold hexL
      rw [if_neg (by rintro rfl; have := hn.out; simp at this; omega)]
    have hz : ((n : Int) == 0) = false := by rw [beq_eq_false_iff_ne]; omega
    have hw2 : IntKind.i64.wrap (2 * (n : Int)) = 2 * (n : Int) := IntWalk.i64_in _ (by omega)
    obtain ⟨i, hi, hiz, his, hib⟩ := u8E.info
    obtain ⟨W1, hmk0, hown0, hg1⟩ := run_make_own (P := Try.prog) w w.heap.size 22 5 i _ 1 u8E.ty hi hiz his .i64 .i64 (2 * n) (by rw [hib]; omega) (by unfold maxLen; omega) (Nat.le_refl _)
    have hmk : (Instr.makeSlice 22 (.int .i64 0) (.int .i64 (2 * (n : Int)))).run Try.prog w = .ok (.slice (some ⟨w.heap.size, 0, none⟩) 0 (2 * n)) W1 := by
      have e : ((2 * n : Nat) : Int) = 2 * (n : Int) := by omega
      rw [← e]
      exact hmk0
    have hown1 : Own W1 w.heap.size 5 (.slice (some ⟨w.heap.size, 0, none⟩) 0 (2 * n)) [] := hown0
    have hb1 : Below w.heap.size w W1 := (Below.refl _ _).grown hg1 (Nat.le_refl _) (fun k hk => by cases hk)
    have HHV := Lib.hid hv
    clear hmk0 hown0 hg1 hi hiz his hib hv
    go_enter Try.func6, Try.ntmps6
    go_wp2_with fail
    go_loopw [3, 5, 15] (fun v _ i wr => ∃ j : Nat, j ≤ n ∧ i = .int .i64 j ∧ Own wr w.heap.size 5 v (((l.take j).flatMap hex2).map bv) ∧ Below w.heap.size w wr) (fun _ _ i _ => n - (intOf i).toNat)
    case atStart => exact ⟨0, Nat.zero_le _, rfl, by simpa using hown1, hb1⟩
    case round =>
      clear hmk hown1 hb1
      obtain ⟨j, hj, rfl, hown, hb⟩ := hrel
      have hbs := hb.size
      by_cases hlt : j < n
      · have hjl : j < l.length := by rw [hn.out]; exact hlt
        obtain ⟨b, o, rfl, hbb, hcell⟩ := (HHV.out.below hb (Nat.le_refl _)).at_ (by rw [hn.out]; exact h0)
        have c0 := hcell j hjl
        have hst := hex_take l j hjl
        have hxb := UInt8.toNat_lt l[j]
        rw [show hex2 l[j] = [hexD (l[j].toNat / 16), hexD (l[j].toNat % 16)] from rfl] at hst
        obtain ⟨x, hx⟩ : ∃ x, l[j].toNat = x := ⟨_, rfl⟩
        have c1' : wr.cell? ⟨b, o + j, none⟩ = some (.int .u8 (x : Int)) := by rw [← hx]; exact c0
        rw [hx] at hst hxb
        obtain ⟨p, hp⟩ : ∃ p, x / 16 = p := ⟨_, rfl⟩
        obtain ⟨r, hr⟩ : ∃ r, x % 16 = r := ⟨_, rfl⟩
        rw [hp, hr] at hst
        have hp1 : p < 16 := by omega
        have hr1 : r < 16 := by omega
        have d1 : (x : Int) / 16 = (p : Int) := by omega
        have d3 : bits .and .u8 (x : Int) 15 = (r : Int) := by rw [and15 x (by omega), hr]
        have hji : (j : Int) < (n : Int) := by omega
        have hx1 := fun W : World => hexc_run W p hp1
        have hx2 := fun W : World => hexc_run W r hr1
        obtain ⟨V, hV⟩ : ∃ V, ((l.take j).flatMap hex2).map bv = V := ⟨_, rfl⟩
        have HL : Hid (V.length = 2 * j) := by show _ = _; rw [← hV, List.length_map, hex_len, List.length_take, Nat.min_eq_left (by omega)]
        rw [hV] at hown
        obtain ⟨c1, hc1⟩ : ∃ c1, hexD p = c1 := ⟨_, rfl⟩
        obtain ⟨c2, hc2⟩ : ∃ c2, hexD r = c2 := ⟨_, rfl⟩
        rw [hc1, hc2] at hst
        rw [hc1] at hx1
        rw [hc2] at hx2
        have HN : Hid (((l.take (j + 1)).flatMap hex2).map bv = V ++ [.int .u8 (c1.toNat : Int), .int .u8 (c2.toNat : Int)]) := by
          show _ = _
          rw [hst, List.map_append, hV]
          rfl
        have HN1 : Hid (∀ u ∈ ([.int .u8 (c1.toNat : Int), .int .u8 (c2.toNat : Int)] : List Value), u.oneCell' = true) := by
          intro u hu
          simp only [List.mem_cons, List.mem_nil_iff, or_false] at hu
          rcases hu with rfl | rfl <;> rfl
        have hO2 := hown.alloc (.cells #[.int .u8 (c1.toNat : Int), .int .u8 (c2.toNat : Int)] 5)
        have hVN := Vs.new wr #[.int .u8 (c1.toNat : Int), .int .u8 (c2.toNat : Int)] 5 (0, 0) [.int .u8 (c1.toNat : Int), .int .u8 (c2.toNat : Int)] rfl
        have hbs1 : w.heap.size ≤ (wr.alloc (.cells #[.int .u8 (c1.toNat : Int), .int .u8 (c2.toNat : Int)] 5)).heap.size := by simp; omega
        have hE1 : V.length + 2 ≤ maxLen := by rw [HL.out]; simp [maxLen]; omega
        have hE2 : (V.length + 2) * 1 ≤ 140737488355328 := by rw [HL.out]; omega
        clear c0 hcell hp hr hx hst hV hc1 hc2 hxb
        go_wp2_with fail
        go_region_held3 (fun V' => Below w.heap.size w V') (first | assumption | exact below_drewN hb 1 | exact (below_drewN hb 1).alloc hbs _)
          (first | ((refine step_app _ (by rfl) (.tmp 19) (.tmp 26) _ (by rfl) w.heap.size 5 u8E u3 V (by rfl) (by exact hO2) (wr.heap.size + 1) _ _ _ ([.int .u8 (c1.toNat : Int), .int .u8 (c2.toNat : Int)] : List Value) (by rfl) (by rfl) (by exact hVN) HN1.out hE1 hE2 hbs1 ?_); intro v' w6 hown6 hg6 _; have hb6 : Below w.heap.size w w6 := (hb.alloc hbs _).trans (below_app hO2 ⟨hg6.os, hg6.tape, hg6.output, hg6.size, hg6.block⟩ hbs1)))
        all_goals
          have hown7 : Own w6 w.heap.size 5 v' (((l.take (j + 1)).flatMap hex2).map bv) := by rw [HN.out]; exact hown6
          clear hown hown6 hO2 hVN hg6 hb
          try go_wp2_with fail
          go_roundw
          case rel => exact ⟨j + 1, by omega, by go_num, hown7, hb6⟩
          case measure => simp [intOf]; omega
      · obtain rfl : j = n := by omega
        have hw : ((l.take j).flatMap hex2).map bv = (hexL l).map bv := by rw [HF.out, ← hn.out, List.take_length]
        rw [hw] at hown
        obtain ⟨A', n', c', rfl, hl0, hl1, hl2, hv'⟩ := hown.bform
        obtain ⟨s, hs1, hs2⟩ := run_string wr 22 9 5 A' n' c' (hexL l) _ Try.underlying22 Try.underlying5 Try.underlying9 hl0.out hv'
        have HS := Lib.hid hs2
        clear hs2 hw hl1 hl2 hl0
        go_wp2_with fail
        go_ret
        exact ⟨s, rfl, HS.out, hb⟩
end Go.Proofs.Ytgmocagdhdbpnaa
