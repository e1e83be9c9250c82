/-
  Package name: runes, and texts gone through rune by rune.
-/
import Derived.Test.YtolpggmcjengcaaDoorMem
import Derived.Test.YtolpggmcjengcaaDoorRef07
import Derived.Test.YtolpggmcjengcaaDoorHexN
import Derived.Laws.RangeAny
import Derived.Shelf.Abstract
namespace Go.Proofs.YtolpggmcjengcaaDoor
open Go.RowKit
set_option linter.unusedVariables false

/-! ### what runes are -/
def isLetter (r : Nat) : Bool := decide (97 ≤ r ∧ r ≤ 122)
def notZ (r : Nat) : Bool := decide (r ≠ 48)
def inTen (r : Nat) : Bool := isLetter r || isDigit r || decide (r = 45)

/-- What a function of runes answers. -/
def Asks (g : Nat) (p : Nat → Bool) : Prop := ∀ (r : Nat) (w : World), Calls Tryd.prog g #[.int .i32 (r : Int)] w fun e w' => e = .returned (.bool (p r)) ∧ w = w'

theorem letter_any : Asks 31 isLetter := by
  intro r w
  by_cases h1 : 97 ≤ r
  · have g1 : decide ((97 : Int) ≤ (r : Int)) = true := by rw [decide_eq_true_iff]; omega
    by_cases h2 : r ≤ 122
    · have g2 : decide ((r : Int) ≤ (122 : Int)) = true := by rw [decide_eq_true_iff]; omega
      have HF : Hid (isLetter r = true) := Lib.hid (by unfold isLetter; rw [decide_eq_true_iff]; omega)
      clear h1 h2
      go_enter Tryd.func31, Tryd.ntmps31
      go_wp2_with fail
      go_ret
      exact ⟨by rw [HF.out]; rfl, rfl⟩
    · have g2 : decide ((r : Int) ≤ (122 : Int)) = false := by rw [decide_eq_false_iff_not]; omega
      have HF : Hid (isLetter r = false) := Lib.hid (by unfold isLetter; rw [decide_eq_false_iff_not]; omega)
      clear h1 h2
      go_enter Tryd.func31, Tryd.ntmps31
      go_wp2_with fail
      go_ret
      exact ⟨by rw [HF.out]; rfl, rfl⟩
  · have g1 : decide ((97 : Int) ≤ (r : Int)) = false := by rw [decide_eq_false_iff_not]; omega
    have HF : Hid (isLetter r = false) := Lib.hid (by unfold isLetter; rw [decide_eq_false_iff_not]; omega)
    clear h1
    go_enter Tryd.func31, Tryd.ntmps31
    go_wp2_with fail
    go_ret
    exact ⟨by rw [HF.out]; rfl, rfl⟩
theorem digit_any : Asks 45 isDigit := by
  intro r w
  by_cases h1 : 48 ≤ r
  · have g1 : decide ((48 : Int) ≤ (r : Int)) = true := by rw [decide_eq_true_iff]; omega
    by_cases h2 : r ≤ 57
    · have g2 : decide ((r : Int) ≤ (57 : Int)) = true := by rw [decide_eq_true_iff]; omega
      have HF : Hid (isDigit r = true) := Lib.hid (by unfold isDigit; rw [decide_eq_true_iff]; omega)
      clear h1 h2
      go_enter Tryd.func45, Tryd.ntmps45
      go_wp2_with fail
      go_ret
      exact ⟨by rw [HF.out]; rfl, rfl⟩
    · have g2 : decide ((r : Int) ≤ (57 : Int)) = false := by rw [decide_eq_false_iff_not]; omega
      have HF : Hid (isDigit r = false) := Lib.hid (by unfold isDigit; rw [decide_eq_false_iff_not]; omega)
      clear h1 h2
      go_enter Tryd.func45, Tryd.ntmps45
      go_wp2_with fail
      go_ret
      exact ⟨by rw [HF.out]; rfl, rfl⟩
  · have g1 : decide ((48 : Int) ≤ (r : Int)) = false := by rw [decide_eq_false_iff_not]; omega
    have HF : Hid (isDigit r = false) := Lib.hid (by unfold isDigit; rw [decide_eq_false_iff_not]; omega)
    clear h1
    go_enter Tryd.func45, Tryd.ntmps45
    go_wp2_with fail
    go_ret
    exact ⟨by rw [HF.out]; rfl, rfl⟩
theorem inTenant_any : Asks 32 inTen := by
  intro r w
  have HL := Lib.hid (fun W => letter_any r W)
  have HD := Lib.hid (fun W => digit_any r W)
  have g1 : ((r : Int) == 45) = decide (r = 45) := by
    by_cases h : r = 45
    · subst h; rfl
    · rw [decide_eq_false h, beq_eq_false_iff_ne]; omega
  have hF : inTen r = (isLetter r || isDigit r || decide (r = 45)) := rfl
  obtain ⟨l, hl⟩ : ∃ b, isLetter r = b := ⟨_, rfl⟩
  obtain ⟨d, hd⟩ : ∃ b, isDigit r = b := ⟨_, rfl⟩
  obtain ⟨q, hq⟩ : ∃ b, decide (r = 45) = b := ⟨_, rfl⟩
  rw [hl, hd, hq] at hF
  rw [hl] at HL
  rw [hd] at HD
  rw [hq] at g1
  have HF := Lib.hid hF
  clear hl hd hq hF
  cases l <;> cases d
  all_goals
    go_enter Tryd.func32, Tryd.ntmps32
    go_wp2_with (first | (go_at_call 31; refine (HL.out _).mono ?_; rintro e' w1 ⟨rfl, rfl⟩) | (go_at_call 45; refine (HD.out _).mono ?_; rintro e' w1 ⟨rfl, rfl⟩))
    go_ret
    exact ⟨by rw [HF.out]; simp, rfl⟩
/-! ### a text, rune by rune -/
def madeL (p q : Nat → Bool) : List UInt8 → Bool
  | [] => false
  | c :: t => p c.toNat && (q c.toNat && t.all (fun x => q x.toNat))
theorem byte_at (s : ByteArray) (pos : Nat) (h : pos < s.size) (ha : s[pos].toNat < 128) (w : World) (P : Program) (ty : TypeId) :
    (Instr.next (.pointer (some ⟨w.heap.size, 0, none⟩)) true ty).run P (w.iter s pos) = .ok (.tuple #[.bool true, .int .i64 pos, .int .i32 (s[pos].toNat : Int)]) (w.iter s (pos + 1)) := by
  have e : s[pos] = s[pos]'h := rfl
  exact run_next_ascii w s pos ty h ha
/-- How a text is gone through: a byte that is no rune of one byte is a rune above them all. -/
theorem rune_at (s : ByteArray) (pos : Nat) (h : pos < s.size) : ∃ r k : Nat, 1 ≤ k ∧ r ≤ 2147483647 ∧ (s[pos].toNat < 128 → r = s[pos].toNat ∧ k = 1) ∧ (128 ≤ s[pos].toNat → 128 ≤ r) ∧
    ∀ (w : World) (P : Program) (ty : TypeId), (Instr.next (.pointer (some ⟨w.heap.size, 0, none⟩)) true ty).run P (w.iter s pos) = .ok (.tuple #[.bool true, .int .i64 pos, .int .i32 (r : Int)]) (w.iter s (pos + k)) := by
  refine ⟨(Utf8.decode s pos).1, (Utf8.decode s pos).2, ?_, decode_le s pos, fun ha => ?_, fun ha => (decode_high s pos h ha).1, fun w P ty => run_next_any w s pos ty h⟩
  · by_cases ha : (s[pos]'h).toNat < 128
    · rw [decode_ascii s pos h ha]
      exact Nat.le_refl _
    · exact (decode_high s pos h (by omega)).2
  · rw [decode_ascii s pos h ha]
    exact ⟨rfl, rfl⟩

set_option maxHeartbeats 1600000 in
theorem made_any (g1 g2 : Nat) (p q : Nat → Bool) (A1 : Asks g1 p) (A2 : Asks g2 q) (e1 : ∀ args w, (callFunc g1 args).run Tryd.prog w = .ok (.enter g1 args) w) (e2 : ∀ args w, (callFunc g2 args).run Tryd.prog w = .ok (.enter g2 args) w)
    (hq : ∀ r, 128 ≤ r → q r = false) (s : ByteArray) (w : World) (hs : s.size ≤ maxLen) :
    Calls Tryd.prog 30 #[.string s, .func (.func g1) #[] #[], .func (.func g2) #[] #[]] w fun e w' => e = .returned (.bool (madeL p q (bl s))) ∧ ∃ pos, w' = w.iter s pos := by
  have HA1 := Lib.hid A1
  have HA2 := Lib.hid A2
  have HQ := Lib.hid hq
  unfold maxLen at hs
  clear A1 A2 hq
  go_enter Tryd.func30, Tryd.ntmps30
  go_wp2_with fail
  go_loopw [7, 8] (fun _ _ wr => ∃ pos : Nat, pos ≤ s.size ∧ wr = w.iter s pos ∧ Hid (0 < pos → madeL p q (bl s) = ((bl s).drop pos).all (fun x => q x.toNat))) (fun _ _ wr => s.size - wr.iterPos w.heap.size)
  case atStart => exact ⟨0, Nat.zero_le _, rfl, fun h => absurd h (Nat.lt_irrefl 0)⟩
  case round =>
    obtain ⟨pos, hp, rfl, HI⟩ := hrel
    by_cases hlt : pos < s.size
    · obtain ⟨r, k, hk, hr, hlo, hhi, hnx⟩ := rune_at s pos hlt
      have hqb : q r = q s[pos].toNat := by
        rcases Nat.lt_or_ge s[pos].toNat 128 with h | h
        · rw [(hlo h).1]
        · rw [HQ.out _ h, HQ.out _ (hhi h)]
      have hd := bl_drop s pos hlt
      have hnx' : ∀ ty, (Instr.next (.pointer (some ⟨w.heap.size, 0, none⟩)) true ty).run Tryd.prog (w.iter s pos) = .ok (.tuple #[.bool true, .int .i64 pos, .int .i32 (r : Int)]) (w.iter s (pos + k)) := fun ty => hnx w Tryd.prog ty
      clear hnx
      have HC1 := Lib.hid (fun W => HA1.out r W)
      have HC2 := Lib.hid (fun W => HA2.out r W)
      cases hqr : q r with
      | false =>
        -- a rune that may not be: no
        have HF : Hid (madeL p q (bl s) = false) := by
          show _ = _
          rcases Nat.eq_zero_or_pos pos with h0 | h0
          · subst h0
            rw [List.drop_zero] at hd
            rw [hd, madeL, ← hqb, hqr, Bool.false_and, Bool.and_false]
          · rw [HI.out h0, hd, List.all_cons, ← hqb, hqr, Bool.false_and]
        rw [hqr] at HC2
        clear hqb hd hlo hhi hqr HI
        rcases Nat.eq_zero_or_pos pos with h0 | h0
        · subst h0
          obtain ⟨pr, hpr⟩ : ∃ b, p r = b := ⟨_, rfl⟩
          rw [hpr] at HC1
          clear hpr
          cases pr <;>
          · go_wp2_with (first | (go_at_fn g1; refine (HC1.out _).mono ?_; rintro e' w1 ⟨rfl, rfl⟩) | (go_at_fn g2; refine (HC2.out _).mono ?_; rintro e' w1 ⟨rfl, rfl⟩))
            go_ret
            exact ⟨by rw [HF.out]; rfl, _, rfl⟩
        · have hz : ((pos : Int) == 0) = false := by rw [beq_eq_false_iff_ne]; omega
          go_wp2_with (first | (go_at_fn g2; refine (HC2.out _).mono ?_; rintro e' w1 ⟨rfl, rfl⟩))
          go_ret
          exact ⟨by rw [HF.out]; rfl, _, rfl⟩
      | true =>
        have hb : s[pos].toNat < 128 := by
          rcases Nat.lt_or_ge s[pos].toNat 128 with h | h
          · exact h
          · rw [HQ.out _ (hhi h)] at hqr; cases hqr
        obtain ⟨hre, rfl⟩ := hlo hb
        rw [hqr] at HC2 hqb
        rcases Nat.eq_zero_or_pos pos with h0 | h0
        · subst h0
          rw [List.drop_zero] at hd
          cases hpr : p r with
          | false =>
            have HF : Hid (madeL p q (bl s) = false) := by show _ = _; rw [hd, madeL, ← hre, hpr, Bool.false_and]
            rw [hpr] at HC1
            clear hd hhi hqr hqb HI hlo hre hpr hb
            go_wp2_with (first | (go_at_fn g1; refine (HC1.out _).mono ?_; rintro e' w1 ⟨rfl, rfl⟩) | (go_at_fn g2; refine (HC2.out _).mono ?_; rintro e' w1 ⟨rfl, rfl⟩))
            go_ret
            exact ⟨by rw [HF.out]; rfl, _, rfl⟩
          | true =>
            have HN : Hid (0 < 0 + 1 → madeL p q (bl s) = ((bl s).drop (0 + 1)).all (fun x => q x.toNat)) := by
              intro _
              rw [hd, madeL, ← hre, hpr, hqr, Bool.true_and, Bool.true_and]
              rfl
            rw [hpr] at HC1
            clear hd hhi hqr hqb HI hlo hre hpr hb
            go_wp2_with (first | (go_at_fn g1; refine (HC1.out _).mono ?_; rintro e' w1 ⟨rfl, rfl⟩) | (go_at_fn g2; refine (HC2.out _).mono ?_; rintro e' w1 ⟨rfl, rfl⟩))
            go_roundw
            case rel => exact ⟨0 + 1, by omega, rfl, HN⟩
            case measure => simp; omega
        · have HN : Hid (0 < pos + 1 → madeL p q (bl s) = ((bl s).drop (pos + 1)).all (fun x => q x.toNat)) := by
            intro _
            rw [HI.out h0, hd, List.all_cons, ← hqb, Bool.true_and]
          have hz : ((pos : Int) == 0) = false := by rw [beq_eq_false_iff_ne]; omega
          clear hd hhi hqr hqb HI hlo hre hb
          go_wp2_with (first | (go_at_fn g2; refine (HC2.out _).mono ?_; rintro e' w1 ⟨rfl, rfl⟩))
          go_roundw
          case rel => exact ⟨pos + 1, by omega, rfl, HN⟩
          case measure => simp; omega
    · obtain rfl : pos = s.size := by omega
      have hnx' : ∀ ty, (Instr.next (.pointer (some ⟨w.heap.size, 0, none⟩)) true ty).run Tryd.prog (w.iter s s.size) = _ := fun ty => run_next_end w s s.size ty (Nat.lt_irrefl _)
      rcases Nat.eq_zero_or_pos s.size with h0 | h0
      · have HF : Hid (madeL p q (bl s) = false) := by
          show _ = _
          rw [List.eq_nil_of_length_eq_zero ((bl_length s).trans h0)]
          rfl
        have h1 := empty_eq s h0
        rw [h0] at hnx'
        clear HI
        go_wp2_with fail
        go_ret
        exact ⟨by rw [HF.out]; rfl, _, rfl⟩
      · have HF : Hid (madeL p q (bl s) = true) := by
          show _ = _
          rw [HI.out h0, bl_end s _ (Nat.le_refl _)]
          rfl
        have h1 := some_eq s h0
        clear HI
        go_wp2_with fail
        go_ret
        exact ⟨by rw [HF.out]; rfl, _, rfl⟩
end Go.Proofs.YtolpggmcjengcaaDoor
