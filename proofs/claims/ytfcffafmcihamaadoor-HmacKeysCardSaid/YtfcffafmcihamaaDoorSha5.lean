/-
  The reference's pad.
-/
import Derived.Test.YtfcffafmcihamaaDoorSha4
namespace Go.Proofs.YtfcffafmcihamaaDoor
open Go.RowKit
set_option linter.unusedVariables false

theorem RetO.read {e : TypeId} {l : List UInt8} {w w' : World} {x : Ending} (h : RetO e l w x w') : RetB l w x w' := by
  obtain ⟨A, n, c, hx, hn, -, h2, h3, h4, h5⟩ := h
  exact ⟨A, n, c, hx, hn, h2, h3, h4, h5⟩

/-- A literal of bytes is a row of the call's own. -/
theorem own_lit (w : World) (base : Nat) (hb : base ≤ w.heap.size) (l : List UInt8) (cs : Array Value) (hc : cs.toList = l.map bv) (hl : l.length ≤ maxLen) (e : TypeId) :
    Own (w.alloc (.cells cs e)) base e (.slice (some ⟨w.heap.size, 0, none⟩) l.length l.length) (l.map bv) := by
  have hs : cs.size = l.length := by rw [← Array.length_toList, hc, List.length_map]
  unfold Own
  rw [List.length_map]
  refine ⟨by simp, .inr ⟨w.heap.size, l.length, cs, rfl, hb, heap_alloc_new w _, Nat.le_refl _, hl, by omega, ?_⟩⟩
  rw [Nat.mul_one, hc, List.take_of_length_le (by simp)]

theorem bytes_len (l : List UInt8) (n : Nat) (h : l.length = n) : Hid ((l.map bv).length = n) := by
  show _ = _
  rw [List.length_map]
  exact h
theorem pre_step (N j : Nat) : bv (UInt8.ofNat (N / 256 ^ j % 256)) :: (beB j N).map bv = (beB (j + 1) N).map bv := by
  unfold beB
  rw [leB_snoc, List.reverse_append]
  simp

set_option maxHeartbeats 1600000 in
/-- ref.Pad. -/
theorem rpad_any (m : Nat) (w : World) (hm : m ≤ 1152921504606846976) : Calls Tryd.prog 17 #[.int .i64 m] w (RetO 5 (padB m) w) := by
  have hz := zerosN_lt m
  have hzm := zerosN_mod m
  have HP : Hid (padB m = 128 :: (List.replicate (zerosN m) 0 ++ beB 8 (8 * m))) := by show _ = _; rfl
  obtain ⟨z, hze⟩ : ∃ z, zerosN m = z := ⟨_, rfl⟩
  rw [hze] at hz hzm HP
  clear hze
  have HZ := Lib.hid hzm
  clear hzm
  go_enter Tryd.func17, Tryd.ntmps17
  go_wp2_with fail
  go_loopw [3] (fun v wr => ∃ k : Nat, k ≤ z ∧ Own wr w.heap.size 5 v ((128 :: List.replicate k 0).map bv) ∧ Below w.heap.size w wr) (fun v _ => match v with | .slice _ n _ => z + 1 - n | _ => 0)
  case atStart => exact ⟨0, Nat.zero_le _, own_lit w w.heap.size (Nat.le_refl _) [128] _ rfl (by simp [maxLen]) _, (Below.refl _ _).alloc (Nat.le_refl _) _⟩
  case round =>
    obtain ⟨k, hk, hown, hb⟩ := hrel
    obtain ⟨A, n, c, rfl, hn, -, -, -⟩ := hown.bform
    obtain rfl : n = k + 1 := by have := hn.out; simpa using this.symm
    obtain ⟨L, hL⟩ : ∃ L, 128 :: List.replicate k (0 : UInt8) = L := ⟨_, rfl⟩
    have HE := Lib.hid hL
    rw [hL] at hown hn
    have hLl : L.length = k + 1 := hn.out
    have HLl := Lib.hid hLl
    clear hL hLl
    have hbs := hb.size
    by_cases hlt : k < z
    · have hv : ((((m : Int) + ((k : Int) + 1) + 8) % 64) != 0) = true := by
        have := HZ.out
        simp
        omega
      go_wp2_with (at_builtin; refine wp_app1 wr rfl (.tmp 15) (.tmp 16) _ rfl w.heap.size 5 u8E (.slice A (k + 1) c) _ rfl hown _ _ _ rfl rfl ?c1 ?c2 ?c3 ?_)
      case c1 => rw [List.length_map, HLl.out]; simp [maxLen]; omega
      case c2 => rw [List.length_map, HLl.out]; omega
      case c3 => exact hbs
      intro v' w1 hown' hg
      have hown2 : Own w1 w.heap.size 5 v' ((128 :: List.replicate (k + 1) 0).map bv) := by
        have e : (128 :: List.replicate (k + 1) (0 : UInt8)).map bv = L.map bv ++ [Value.int .u8 0] := by
          rw [List.replicate_succ', ← HE.out]
          simp [bv]
        rw [e]
        exact hown'
      have hb2 := hb.trans (below_app hown hg hbs)
      obtain ⟨A', n', c', rfl, hn2, -, -, -⟩ := hown2.bform
      obtain rfl : n' = k + 2 := by have := hn2.out; simpa using this.symm
      clear hown hown' hg hb hn hn2
      go_wp2
      go_roundw
      case rel => exact ⟨k + 1, by omega, hown2, hb2⟩
      case measure => simp; omega
    · obtain rfl : k = z := by omega
      have hv : ((((m : Int) + ((k : Int) + 1) + 8) % 64) != 0) = false := by
        have := HZ.out
        simp
        omega
      have h8 : (m : Int) * 8 = ((8 * m : Nat) : Int) := by omega
      have H8 := Lib.hid h8
      clear h8
      have hmz : 0 ≤ (m : Int) * 8 := by omega
      go_wp2_with fail
      rw [H8.out]
      have hN : 8 * m < 18446744073709551616 := by omega
      have HF : Hid (L ++ beB 8 (8 * m) = padB m) := by show _ = _; rw [HP.out, ← HE.out]; simp
      obtain ⟨N, hNe⟩ : ∃ N, 8 * m = N := ⟨_, rfl⟩
      rw [hNe] at hN HF ⊢
      clear hNe H8 hmz
      go_loopw [4, 5, 6] (fun x v i w2 => ∃ j q : Nat, j ≤ 8 ∧ i = .int .i64 j ∧ x = .int .u64 q ∧ q = N / 256 ^ j ∧ Own w2 w.heap.size 5 (.slice A (k + 1) c) (L.map bv) ∧ Own w2 w.heap.size 5 v ((beB j N).map bv) ∧ Below w.heap.size w w2)
        (fun _ _ i _ => 8 - (intOf i).toNat)
      case atStart => exact ⟨0, N, Nat.zero_le _, rfl, rfl, by simp, hown, Own.nil _ _ _, hb⟩
      case round =>
        clear hown hb hbs
        obtain ⟨j, q, hj, rfl, rfl, hq, hout, hown, hb⟩ := hrel
        have HQ := Lib.hid hq
        clear hq
        have hqn : q < 18446744073709551616 := Nat.lt_of_le_of_lt (by rw [HQ.out]; exact Nat.div_le_self _ _) hN
        have hbs := hb.size
        obtain ⟨A5, n5, c5, rfl, hn5, -, -, hv5⟩ := hown.bform
        obtain rfl : n5 = j := by have := hn5.out; simpa using this.symm
        by_cases hlt : n5 < 8
        · have hlit := own_lit wr w.heap.size hbs [UInt8.ofNat (q % 256)] #[.int .u8 ((q : Int) % 256)] (by simp [bv]) (by simp [maxLen]) 5
          have hv6 := Bs.alloc hv5 (Nat.le_refl _) (.cells #[.int .u8 ((q : Int) % 256)] 5)
          have hon := bv_one (beB n5 N)
          have HL5 := bytes_len _ _ hn5.out
          go_wp2_with (at_builtin; refine wp_app (wr.alloc (.cells #[.int .u8 ((q : Int) % 256)] 5)) rfl (.tmp 28) (.tmp 29) _ rfl w.heap.size 5 u8E (.slice (some ⟨wr.heap.size, 0, none⟩) 1 1) _ rfl hlit _ _ _ _ _ rfl HL5.out hv6 hon ?d1 ?d2 ?d3 ?_)
          case d1 => simp [maxLen]; omega
          case d2 => simp; omega
          case d3 => simp; omega
          intro v' w1 hown' hg _
          have hown2 : Own w1 w.heap.size 5 v' ((beB (n5 + 1) N).map bv) := by
            rw [← pre_step, ← HQ.out]
            exact hown'
          have hga : wr.grownBy w1 (some wr.heap.size) := by
            have := (World.grownBy_alloc wr (.cells #[.int .u8 ((q : Int) % 256)] 5) (some wr.heap.size)).trans hg
            exact this
          have hout2 : Own w1 w.heap.size 5 (.slice A (k + 1) c) (L.map bv) := hout.kept hga (.inr (fun e => by have := hout.lt _ e; omega))
          have hb2 := hb.grown hga hbs (fun q hq => by simp at hq; omega)
          obtain ⟨A', n', c', rfl, hn2, -, -, -⟩ := hown2.bform
          clear hown hown' hg hga hb hn5 hv5 hv6 hlit hout HL5 hon
          go_wp2
          go_roundw
          case rel => exact ⟨n5 + 1, q / 256, by omega, by go_num, by go_num, by rw [HQ.out, Nat.div_div_eq_div_mul, Nat.pow_succ], hout2, hown2, hb2⟩
          case measure => simp [intOf]; omega
        · obtain rfl : n5 = 8 := by omega
          have hon := bv_one (beB 8 N)
          have HL5 := bytes_len _ _ hn5.out
          go_wp2_with (at_builtin; refine wp_app wr rfl (.tmp 33) (.tmp 34) _ rfl w.heap.size 5 u8E (.slice A (k + 1) c) _ rfl hout _ _ _ _ _ rfl HL5.out hv5 hon ?d1 ?d2 ?d3 ?_)
          case d1 => simp [maxLen, HLl.out]; omega
          case d2 => simp [HLl.out]; omega
          case d3 => exact hbs
          intro v' w1 hown' hg _
          have hown2 : Own w1 w.heap.size 5 v' ((padB m).map bv) := by
            rw [← HF.out, List.map_append]
            exact hown'
          have hb2 := hb.trans (below_app hout hg hbs)
          clear hown hown' hg hb hn5 hv5 hout HL5 hon
          go_wp2
          go_ret
          exact RetO.of rfl hown2 hb2
end Go.Proofs.YtfcffafmcihamaaDoor
