import Derived.Test.YtoielghmgjdknaaRef01
import Derived.Lib.AppendZerosOnto
import Derived.Lib.SliceRun
namespace Go.Proofs.Ytoielghmgjdknaa
open Go.RowKit
set_option linter.unusedVariables false

set_option maxHeartbeats 400000 in
/-- slices.Grow at []byte, of nil. -/
theorem grow_nil (n : Nat) (w : World) (hn : n ≤ 1099511627776) :
    Calls Try.prog 27 #[.slice none 0 0, .int .i64 n] w fun e w' => ∃ v, e = .returned v ∧ Own w' w.heap.size 5 v [] ∧ Below w.heap.size w w' := by
  rcases Nat.eq_zero_or_pos n with rfl | h0
  · go_enter Try.func27, Try.ntmps27
    go_wp2
    go_ret
    exact ⟨_, rfl, Own.nil _ _ _, Below.refl _ _⟩
  · obtain ⟨i0, hi, hz0, hz1, hz2⟩ := info_parts (show (Try.prog.info? 5).map (fun i => (i.zero, i.size, i.bytes)) = some (some (.int .u8 0), 1, 1) by kernel_rfl)
    have hrz : ∀ ty, (Builtin.append_ #[22, 3] ty #[.slice none 0 0, .int .i64 (n : Int)]).run Try.prog w =
        .ok (.slice (some ⟨w.heap.size, 0, none⟩) n (grownCap w n 0 5)) (w.drew.alloc (.cells ((#[] : Array Value) ++ Builtin.zeroCells (Value.int .u8 0).cells n ++ Builtin.zeroCells (Value.int .u8 0).cells (grownCap w n 0 5 - n)) 5)) := fun ty => by
      have h := Lib.run_append_grow_zeros w 22 3 ty 5 i0 (.int .u8 0) .i64 .i64 Try.underlying22 Try.underlying3 hi hz0 none 0 0 [] (run_firstCells_none w.drew i0.size 0 0 0) n h0 (by omega) (by omega) (by omega)
        (by rw [hz2]; omega) (growslice_fits (by omega) (by rw [hz2]; omega))
      simpa using h
    have hG := grownCap_ge w n 0 5
    have hG2 := grownCap_le_maxLen w n 0 5 (by unfold maxLen; omega)
    obtain ⟨G, hGe⟩ : ∃ G, G = grownCap w n 0 5 := ⟨_, rfl⟩
    rw [← hGe] at hrz hG hG2
    clear hGe hi hz0 hz1 hz2
    have hG3 : G ≤ 9223372036854775807 := by unfold maxLen at hG2; omega
    obtain ⟨cs, hcs⟩ : ∃ cs : Array Value, cs = (#[] : Array Value) ++ Builtin.zeroCells (Value.int .u8 0).cells n ++ Builtin.zeroCells (Value.int .u8 0).cells (G - n) := ⟨_, rfl⟩
    rw [← hcs] at hrz
    have hsz : cs.size = G * 1 := by rw [hcs]; simp [Builtin.zeroCells, Value.cells]; omega
    clear hcs
    have HS := Lib.hid hsz
    clear hsz
    have HG := Lib.hid hG2
    clear hG2
    go_enter Try.func27, Try.ntmps27
    go_wp2_with (at_builtin; refine Lib.wpList_append_run _ rfl _ _ _ _ rfl _ _ rfl rfl _ _ (hrz _) ?_)
    go_ret
    refine ⟨_, rfl, ?_, ((Below.refl _ w).drew).alloc (Nat.le_refl _) _⟩
    exact World.ownsRow_made w.drew cs G (Nat.le_refl _) HG.out HS.out

/-! ### Concat -/
/-- A slice's value: address, capacity, bytes. -/
def svc (s : Option Addr × Nat × List UInt8) : Value := .slice s.1 s.2.2.length s.2.1
def cat (ss : List (Option Addr × Nat × List UInt8)) : List UInt8 := (ss.map (·.2.2)).flatten
theorem cat_take (ss : List (Option Addr × Nat × List UInt8)) (k : Nat) (h : k < ss.length) : cat (ss.take (k + 1)) = cat (ss.take k) ++ ss[k].2.2 := by
  unfold cat
  rw [List.take_succ_eq_append_getElem h, List.map_append, List.flatten_append]
  simp only [List.map_cons, List.map_nil, List.flatten_cons, List.flatten_nil, List.append_nil]
theorem cat_le (ss : List (Option Addr × Nat × List UInt8)) (k : Nat) : (cat (ss.take k)).length ≤ (cat ss).length := by
  have h : cat ss = cat (ss.take k) ++ cat (ss.drop k) := by
    unfold cat
    rw [← List.flatten_append, ← List.map_append, List.take_append_drop]
  rw [h]
  simp

set_option maxHeartbeats 800000 in
/-- slices.Concat at []byte. -/
theorem concat_any (A : Option Addr) (n c : Nat) (ss : List (Option Addr × Nat × List UInt8)) (w : World) (hn : ss.length = n) (h : Vs w w.heap.size A (ss.map svc)) (hs : ∀ s ∈ ss, Bs w w.heap.size s.1 s.2.2)
    (hn2 : n ≤ 1048576) (ht : (cat ss).length ≤ 1099511627776) :
    Calls Try.prog 19 #[.slice A n c] w (RetO 5 (cat ss) w) := by
  subst hn
  go_enter Try.func19, Try.ntmps19
  go_wp2_with fail
  go_loop [3, 5, 11] (fun s _ i => ∃ k : Nat, k ≤ ss.length ∧ i = .int .i64 k ∧ s = .int .i64 ((cat (ss.take k)).length : Nat)) (fun _ _ i => ss.length - (intOf i).toNat)
  case atStart => exact ⟨0, Nat.zero_le _, rfl, by simp [cat]⟩
  case round =>
    obtain ⟨k, hk, rfl, rfl⟩ := hrel
    have hle := cat_le ss k
    by_cases hlt : k < ss.length
    · obtain ⟨b, o, rfl, hb, hc⟩ := h.at_ (by simp; omega)
      have hc1 := hc k (by simpa using hlt)
      simp only [List.getElem_map, svc] at hc1
      have HT := Lib.hid (congrArg List.length (cat_take ss k hlt))
      have hle2 := cat_le ss (k + 1)
      have hsum : (cat (ss.take k)).length + ss[k].2.2.length ≤ 1099511627776 := by have := HT.out; simp at this; omega
      obtain ⟨x, hx⟩ : ∃ x, (cat (ss.take k)).length = x := ⟨_, rfl⟩
      have HX : Hid ((cat (ss.take (k + 1))).length = x + ss[k].2.2.length) := by have := HT.out; simp at this; show _ = _; omega
      rw [hx] at hsum ⊢
      clear hx HT hle hle2 hc
      go_wp2_with fail
      go_round
      case rel => exact ⟨k + 1, by omega, by go_num, by rw [HX.out]; go_num⟩
      case measure => simp [intOf]; omega
    · obtain rfl : k = ss.length := by omega
      rw [List.take_length]
      have hle : (cat ss).length ≤ 1099511627776 := ht
      go_wp2_with fail
      refine (grow_nil _ _ hle).mono ?_
      rintro e w1 ⟨v, rfl, hown, hb⟩
      go_wp2_with fail
      go_loopw [6, 8, 27] (fun v _ i wr => ∃ k : Nat, k ≤ ss.length ∧ i = .int .i64 k ∧ Own wr w.heap.size 5 v ((cat (ss.take k)).map bv) ∧ Below w.heap.size w wr) (fun _ _ i _ => ss.length - (intOf i).toNat)
      case atStart => exact ⟨0, Nat.zero_le _, rfl, by simpa [cat] using hown, hb⟩
      case round =>
        clear hown hb hk hlt
        obtain ⟨k, hk, rfl, hown, hb⟩ := hrel
        by_cases hlt : k < ss.length
        · obtain ⟨b, o, rfl, hbb, hc⟩ := h.at_ (by simp; omega)
          have hc1 := hc k (by simpa using hlt)
          simp only [List.getElem_map, svc] at hc1
          have hc2 := (hb.cell (p := ⟨b, o + k, none⟩) hbb).trans hc1
          have HT := Lib.hid (cat_take ss k hlt)
          have hle2 := cat_le ss (k + 1)
          have hsum : (cat (ss.take k)).length + ss[k].2.2.length ≤ 1099511627776 := by have := HT.out; rw [this] at hle2; simp at hle2; omega
          have hsk := (hs _ (List.getElem_mem hlt)).below hb (Nat.le_refl _)
          have hbs := hb.size
          clear hc hle2 hc1
          go_wp2_with (at_builtin; refine wp_app wr rfl (.tmp 31) (.tmp 32) _ rfl w.heap.size 5 u8E u6 _ rfl hown _ _ _ _ _ rfl (List.length_map _) hsk (bv_one _) ?c1 ?c2 ?c3 ?_)
          case c1 => simp only [List.length_map, maxLen]; omega
          case c2 => simp only [List.length_map]; omega
          case c3 => exact hbs
          intro v' w2 hown2 hg2 _
          have hb2 := hb.trans (below_app hown hg2 hbs)
          rw [← List.map_append, ← HT.out] at hown2
          clear hown hg2 hb hc2 hsk
          go_wp2
          go_roundw
          case rel => exact ⟨k + 1, by omega, by go_num, hown2, hb2⟩
          case measure => simp [intOf]; omega
        · obtain rfl : k = ss.length := by omega
          rw [List.take_length] at hown
          go_wp2_with fail
          go_ret
          exact RetO.of rfl hown hb
end Go.Proofs.Ytoielghmgjdknaa
