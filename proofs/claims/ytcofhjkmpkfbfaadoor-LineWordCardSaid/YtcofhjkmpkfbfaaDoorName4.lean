/-
  Package name: words of a line.
-/
import Derived.Test.YtcofhjkmpkfbfaaDoorName2
import Derived.Test.YtcofhjkmpkfbfaaDoorSplitN
import Derived.Test.YtcofhjkmpkfbfaaDoorRef07c
import Derived.Test.YtcofhjkmpkfbfaaDoorShelf
import Derived.Lib.SplitLaws
namespace Go.Proofs.YtcofhjkmpkfbfaaDoor
open Go.RowKit
set_option linter.unusedVariables false

theorem rune_wide (s : ByteArray) (p : Nat) (h : p < s.size) : ∃ r k : Nat, 1 ≤ k ∧ (s[p].toNat < 128 → r = s[p].toNat ∧ k = 1) ∧ (128 ≤ s[p].toNat → 128 ≤ r ∧ p + k ≤ s.size ∧ ∀ b, sepOk b ((bl s).drop p) = sepOk true ((bl s).drop (p + k))) ∧
    ∀ (w : World) (P : Program) (ty : TypeId), (Instr.next (.pointer (some ⟨w.heap.size, 0, none⟩)) true ty).run P (w.iter s p) = .ok (.tuple #[.bool true, .int .i64 p, .int .i32 (r : Int)]) (w.iter s (p + k)) := by
  have h1 : 1 ≤ (Utf8.decode s p).2 := by
    by_cases ha : (s[p]'h).toNat < 128
    · rw [decode_ascii s p h ha]
      exact Nat.le_refl _
    · exact (decode_high s p h (by omega)).2
  refine ⟨(Utf8.decode s p).1, (Utf8.decode s p).2, h1, fun ha => ?_, fun ha => ⟨(decode_high s p h ha).1, ?_, fun b => ?_⟩, fun w P ty => run_next_any w s p ty h⟩
  · rw [decode_ascii s p h ha]
    exact ⟨rfl, rfl⟩
  · obtain ⟨h2, _⟩ := decode_bytes s p h ha ((Utf8.decode s p).2 - 1) (by omega)
    omega
  · refine sepOk_high (bl s) _ p b h1 fun j hj => ?_
    obtain ⟨h2, h3⟩ := decode_bytes s p h ha j hj
    exact ⟨by rw [bl_length]; exact h2, by rw [bl_at s _ h2]; exact h3⟩

set_option maxHeartbeats 1600000 in
theorem separate_any (s : ByteArray) (w : World) (hs : s.size ≤ maxLen) : Calls Tryd.prog 11 #[.string s] w fun e w' => e = .returned (.bool (sepOk false (bl s))) ∧ ∃ pos, w' = w.iter s pos := by
  unfold maxLen at hs
  go_enter Tryd.func11, Tryd.ntmps11
  go_wp2_with fail
  go_loopw [3, 5] (fun v _ wr => ∃ p last : Nat, p ≤ s.size ∧ v = .int .i32 (last : Int) ∧ wr = w.iter s p ∧ Hid (sepOk false (bl s) = sepOk (decide (last ≠ 32)) ((bl s).drop p))) (fun _ _ wr => s.size - wr.iterPos w.heap.size)
  case atStart => exact ⟨0, 32, Nat.zero_le _, rfl, rfl, Lib.hid rfl⟩
  case round =>
    obtain ⟨p, last, hp, rfl, rfl, HI⟩ := hrel
    by_cases hlt : p < s.size
    · obtain ⟨r, k, hk, hlo, hhi, hnx⟩ := rune_wide s p hlt
      have hnx' : ∀ ty, (Instr.next (.pointer (some ⟨w.heap.size, 0, none⟩)) true ty).run Tryd.prog (w.iter s p) = .ok (.tuple #[.bool true, .int .i64 p, .int .i32 (r : Int)]) (w.iter s (p + k)) := fun ty => hnx w Tryd.prog ty
      clear hnx
      have hi := HI.out
      rcases Nat.lt_or_ge s[p].toNat 128 with hb | hb
      · obtain ⟨hre, rfl⟩ := hlo hb
        rw [bl_drop s p hlt] at hi
        by_cases h32 : s[p] = 32
        · have hr32 : r = 32 := by rw [hre, h32]; rfl
          rw [sepOk_blank _ _ h32] at hi
          have g1 : decide ((r : Int) < 32) = false := by rw [decide_eq_false_iff_not]; omega
          have g2 : ((r : Int) == 32) = true := by rw [beq_iff_eq]; omega
          by_cases hl : last = 32
          · have HF : Hid (sepOk false (bl s) = false) := by show _ = _; rw [hi, decide_eq_false (not_not_intro hl), Bool.false_and]
            have g3 : ((last : Int) == 32) = true := by rw [beq_iff_eq]; omega
            clear hi HI hlo hhi hre h32 hr32 hl
            go_wp2_with fail
            go_ret
            exact ⟨by rw [HF.out]; rfl, _, rfl⟩
          · have HN : Hid (sepOk false (bl s) = sepOk (decide (r ≠ 32)) ((bl s).drop (p + 1))) := by show _ = _; rw [hi, decide_eq_true hl, Bool.true_and, decide_eq_false (not_not_intro hr32)]
            have g3 : ((last : Int) == 32) = false := by rw [beq_eq_false_iff_ne]; omega
            clear hi HI hlo hhi hre h32 hr32 hl
            go_wp2_with fail
            go_roundw
            case rel => exact ⟨p + 1, r, by omega, rfl, rfl, HN⟩
            case measure => simp; omega
        · have hr32 : r ≠ 32 := fun e => h32 (UInt8.toNat.inj (hre.symm.trans e))
          rw [sepOk_byte _ _ h32] at hi
          have g2 : ((r : Int) == 32) = false := by rw [beq_eq_false_iff_ne]; omega
          rcases Nat.lt_or_ge r 32 with hlow | hlow
          · have HF : Hid (sepOk false (bl s) = false) := by show _ = _; rw [hi, decide_eq_false (by omega), Bool.false_and]
            have g1 : decide ((r : Int) < 32) = true := by rw [decide_eq_true_iff]; omega
            clear hi HI hlo hhi hre h32 hr32 hlow
            go_wp2_with fail
            go_ret
            exact ⟨by rw [HF.out]; rfl, _, rfl⟩
          · have HN : Hid (sepOk false (bl s) = sepOk (decide (r ≠ 32)) ((bl s).drop (p + 1))) := by show _ = _; rw [hi, decide_eq_true (by omega), Bool.true_and, decide_eq_true hr32]
            have g1 : decide ((r : Int) < 32) = false := by rw [decide_eq_false_iff_not]; omega
            clear hi HI hlo hhi hre h32 hr32 hlow
            go_wp2_with fail
            go_roundw
            case rel => exact ⟨p + 1, r, by omega, rfl, rfl, HN⟩
            case measure => simp; omega
      · obtain ⟨hr128, hpk, hall⟩ := hhi hb
        rw [hall] at hi
        have HN : Hid (sepOk false (bl s) = sepOk (decide (r ≠ 32)) ((bl s).drop (p + k))) := by show _ = _; rw [hi, decide_eq_true (by omega)]
        have g1 : decide ((r : Int) < 32) = false := by rw [decide_eq_false_iff_not]; omega
        have g2 : ((r : Int) == 32) = false := by rw [beq_eq_false_iff_ne]; omega
        clear hi HI hlo hall
        go_wp2_with fail
        go_roundw
        case rel => exact ⟨p + k, r, hpk, rfl, rfl, HN⟩
        case measure => simp; omega
    · obtain rfl : p = s.size := by omega
      have hnx' : ∀ ty, (Instr.next (.pointer (some ⟨w.heap.size, 0, none⟩)) true ty).run Tryd.prog (w.iter s s.size) = _ := fun ty => run_next_end w s s.size ty (Nat.lt_irrefl _)
      have hi := HI.out
      rw [bl_end s _ (Nat.le_refl _), sepOk_end] at hi
      have g1 : ((last : Int) != 32) = decide (last ≠ 32) := by
        by_cases h : last = 32
        · subst h; rfl
        · rw [decide_eq_true h, bne_iff_ne]; omega
      obtain ⟨b, hb⟩ : ∃ b, decide (last ≠ 32) = b := ⟨_, rfl⟩
      rw [hb] at g1 hi
      have HF := Lib.hid hi
      clear HI hi hb
      go_wp2_with fail
      go_ret
      exact ⟨by rw [HF.out]; rfl, _, rfl⟩
/-- The variable that the search of texts reads holds some number. -/
def MaxL (w : World) : Prop := ∃ m, w.cell? ⟨0, 0, none⟩ = some (.int .i64 m)
theorem MaxL.stay {w w' : World} (h : MaxL w) (hb : Below w.heap.size w w') : MaxL w' := by
  obtain ⟨m, h⟩ := h
  exact ⟨m, (hb.cell (World.block_lt_of_cell? w _ h)).trans h⟩
def wordsE (r : Option (List (List UInt8))) : Int := if r.isSome then 0 else 2
/-- Words, and what is wrong with a line. -/
def RetW (r : Option (List (List UInt8))) (w : World) (x : Ending) (w' : World) : Prop :=
  ∃ A n c, x = .returned (.tuple #[.slice A n c, .int .i64 (wordsE r)]) ∧ Hid ((r.getD []).length = n) ∧ n ≤ c ∧ c ≤ maxLen ∧ Vs w' w'.heap.size A ((r.getD []).map sv) ∧ Below w.heap.size w w'
theorem sp_length (l : List UInt8) : (sp l).length ≤ l.length + 1 := by
  induction l with
  | nil => exact Nat.le_refl _
  | cons c t ih =>
    by_cases hc : c = 32
    · subst hc; rw [sp_blank, List.length_cons, List.length_cons]; omega
    · obtain ⟨h, r, e⟩ := sp_some t
      rw [sp_byte hc e, List.length_cons, List.length_cons]
      rw [e, List.length_cons] at ih
      omega

set_option maxHeartbeats 1600000 in
theorem nwords_any (s : ByteArray) (w : World) (hs : s.size ≤ 65536) (hm : MaxL w) : Calls Tryd.prog 8 #[.string s] w (RetW (wordsL (bl s)) w) := by
  have hlen := bl_length s
  rcases Nat.eq_zero_or_pos s.size with h0 | h0
  · have h1 := empty_eq s h0
    have hl : bl s = [] := List.eq_nil_of_length_eq_zero (hlen.trans h0)
    have HW : Hid (wordsL (bl s) = some []) := by show _ = _; rw [hl]; rfl
    clear hl hlen
    go_enter Tryd.func8, Tryd.ntmps8
    go_wp2_with fail
    go_ret2
    exact ⟨none, 0, 0, by rw [HW.out]; rfl, Lib.hid (by rw [HW.out]; rfl), Nat.le_refl _, Nat.zero_le _, by rw [HW.out]; exact Vs.nil _ _ _, Below.refl _ _⟩
  · have h1 := some_eq s h0
    have hl : bl s ≠ [] := by intro e; rw [e] at hlen; simp at hlen; omega
    have hw := words_sp hl
    have HC := Lib.hid (fun W => separate_any s W (by unfold maxLen; omega))
    cases hsep : sepOk false (bl s) with
    | false =>
      rw [hsep, if_neg Bool.false_ne_true] at hw
      rw [hsep] at HC
      have HW := Lib.hid hw
      clear hl hlen hw hsep
      go_enter Tryd.func8, Tryd.ntmps8
      go_wp2_with fail
      refine (HC.out _).mono ?_
      rintro e' w1 ⟨rfl, pos, rfl⟩
      go_wp2_with fail
      go_ret2
      exact ⟨none, 0, 0, by rw [HW.out]; rfl, Lib.hid (by rw [HW.out]; rfl), Nat.le_refl _, Nat.zero_le _, by rw [HW.out]; exact Vs.nil _ _ _, iter_below _ _ _⟩
    | true =>
      rw [hsep, if_pos rfl] at hw
      rw [hsep] at HC
      have HW := Lib.hid hw
      clear hl hw hsep
      go_enter Tryd.func8, Tryd.ntmps8
      go_wp2_with fail
      refine (HC.out _).mono ?_
      rintro e' w1 ⟨rfl, pos, rfl⟩
      obtain ⟨W1, hW1⟩ : ∃ W1, w.iter s pos = W1 := ⟨_, rfl⟩
      have hb1 : Below w.heap.size w W1 := by rw [← hW1]; exact iter_below _ _ _
      obtain ⟨m, hm1⟩ := hm.stay hb1
      rw [hW1]
      clear hW1
      have hpieces : (Lib.splitB ⟨#[32]⟩ 0 (Lib.countB s ⟨#[32]⟩) s).map Value.string = (sp (bl s)).map sv := by
        have h2 := Lib.splitB_data ⟨#[32]⟩ 0 (Lib.countB s ⟨#[32]⟩) s
        have h3 := split_sp (bl s)
        have h4 : (Lib.splitB ⟨#[32]⟩ 0 (Lib.countB s ⟨#[32]⟩) s).map bl = sp (bl s) := h2.trans h3
        rw [← h4, List.map_map]
        apply List.map_congr_left
        intro x _
        exact (sv_bl x).symm
      have hcount : (sp (bl s)).length = Lib.countB s ⟨#[32]⟩ + 1 := by
        have h2 := congrArg List.length hpieces
        rw [List.length_map, List.length_map, Lib.splitB_all ⟨#[32]⟩ (by decide) 0 (Lib.countB s ⟨#[32]⟩) s rfl] at h2
        exact h2.symm
      have hle := sp_length (bl s)
      rw [hlen] at hle
      have hcall := Tryd.strings_Split s ⟨#[32]⟩ m W1 (by omega) hm1 (by decide)
      rw [hpieces, ← hcount] at hcall
      obtain ⟨n, hn⟩ : ∃ n, (sp (bl s)).length = n := ⟨_, rfl⟩
      rw [hn] at hcall hle
      have HN := Lib.hid hn
      clear hpieces hcount hn hlen
      go_wp2_with fail
      refine hcall.mono ?_
      rintro e' w2 ⟨rfl, rfl⟩
      have hv := Vs.new W1 ((sp (bl s)).map sv).toArray 9 (0, 0) ((sp (bl s)).map sv) rfl
      have hb2 : Below w.heap.size w (W1.alloc (.cells ((sp (bl s)).map sv).toArray 9)) := hb1.alloc hb1.size _
      obtain ⟨V, hV⟩ : ∃ V, W1.alloc (.cells ((sp (bl s)).map sv).toArray 9) = V := ⟨_, rfl⟩
      have hvs : V.heap.size = W1.heap.size + 1 := by rw [← hV]; simp
      rw [hV] at hv hb2 ⊢
      rw [← hvs] at hv
      clear hV hvs
      go_wp2_with fail
      go_ret2
      exact ⟨_, n, n, by rw [HW.out]; rfl, by rw [HW.out]; exact HN, Nat.le_refl _, by unfold maxLen; omega, by rw [HW.out]; exact hv, hb2⟩
end Go.Proofs.YtcofhjkmpkfbfaaDoor
