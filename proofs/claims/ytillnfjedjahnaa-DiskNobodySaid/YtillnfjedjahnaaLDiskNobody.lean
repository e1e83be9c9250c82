/-
  The walk of DiskNobody, over what calls of a disk that is nil are to do.
-/
import Derived.Test.YtillnfjedjahnaaLDiskKeeps
namespace Go.Proofs.Ytillnfjedjahnaa
open Go.RowKit
set_option linter.unusedVariables false

/-- A call that answers this, and leaves what was there. -/
def Answers (f : FuncId) (args : Array Value) (w : World) (v : Value) : Prop := Calls Try.prog f args w fun e w' => e = .returned v ∧ Below w.heap.size w w'
/-- What the calls of a disk that is nil are to do. -/
structure NilLaws : Prop where
  append : ∀ w nm A n c, Answers 18 #[.pointer none, .string nm, .slice A n c] w (.int .i64 19)
  sync : ∀ w nm, Answers 19 #[.pointer none, .string nm] w (.int .i64 19)
  rename : ∀ w nm to, Answers 20 #[.pointer none, .string nm, .string to] w (.int .i64 19)
  remove : ∀ w nm, Answers 21 #[.pointer none, .string nm] w (.int .i64 19)
  arm : ∀ w n keep, Answers 22 #[.pointer none, .int .u64 n, .int .i64 keep] w (.tuple #[])
  crash : ∀ w keep, Answers 10 #[.pointer none, .int .i64 keep] w (.tuple #[])
  up : ∀ w, Answers 23 #[.pointer none] w (.tuple #[])
  read : ∀ w nm, Answers 13 #[.pointer none, .string nm] w (.tuple #[.slice none 0 0, .int .i64 19])
  down : ∀ w, Answers 14 #[.pointer none] w (.bool true)
  files : ∀ w, Answers 9 #[.pointer none] w (.slice none 0 0)
  list : ∀ w, Answers 15 #[.pointer none] w (.slice none 0 0)
  size : ∀ w, Answers 16 #[.pointer none] w (.int .i64 0)
  calls : ∀ w, Answers 17 #[.pointer none] w (.int .u64 0)

set_option maxHeartbeats 3200000 in
theorem doNil_any (D : NilLaws) (w : World) (kind : Int) (name to : ByteArray) (A : Option Addr) (n c : Nat) (num m : Int) :
    Calls Try.prog 8 #[.pointer none, .agg #[.int .i64 kind, .string name, .string to, .slice A n c, .int .u64 num, .int .i64 m]] w fun e w' => e = .returned (.int .i64 (if 1 ≤ kind ∧ kind ≤ 4 then 19 else 0)) ∧ Below w.heap.size w w' := by
  have hB := fun o => (Below.refl w.heap.size w).alloc (Nat.le_refl _) o
  by_cases k1 : kind = 1
  · subst k1
    have HC := Lib.hid (fun W => D.append W name A n c)
    have HB := Lib.hid hB
    clear hB D
    go_enter Try.func8, Try.ntmps8
    go_wp2_with fail
    refine (HC.out _).mono ?_
    rintro e w1 ⟨rfl, hb⟩
    go_wp2_with fail
    go_ret
    exact ⟨rfl, (HB.out _).trans (hb.mono (HB.out _).size)⟩
  by_cases k2 : kind = 2
  · subst k2
    have HC := Lib.hid (fun W => D.sync W name)
    have HB := Lib.hid hB
    clear hB D
    go_enter Try.func8, Try.ntmps8
    go_wp2_with fail
    refine (HC.out _).mono ?_
    rintro e w1 ⟨rfl, hb⟩
    go_wp2_with fail
    go_ret
    exact ⟨rfl, (HB.out _).trans (hb.mono (HB.out _).size)⟩
  by_cases k3 : kind = 3
  · subst k3
    have HC := Lib.hid (fun W => D.rename W name to)
    have HB := Lib.hid hB
    clear hB D
    go_enter Try.func8, Try.ntmps8
    go_wp2_with fail
    refine (HC.out _).mono ?_
    rintro e w1 ⟨rfl, hb⟩
    go_wp2_with fail
    go_ret
    exact ⟨rfl, (HB.out _).trans (hb.mono (HB.out _).size)⟩
  by_cases k4 : kind = 4
  · subst k4
    have HC := Lib.hid (fun W => D.remove W name)
    have HB := Lib.hid hB
    clear hB D
    go_enter Try.func8, Try.ntmps8
    go_wp2_with fail
    refine (HC.out _).mono ?_
    rintro e w1 ⟨rfl, hb⟩
    go_wp2_with fail
    go_ret
    exact ⟨rfl, (HB.out _).trans (hb.mono (HB.out _).size)⟩
  by_cases k5 : kind = 5
  · subst k5
    have HC := Lib.hid (fun W => D.arm W num m)
    have HB := Lib.hid hB
    clear hB D
    go_enter Try.func8, Try.ntmps8
    go_wp2_with fail
    refine (HC.out _).mono ?_
    rintro e w1 ⟨rfl, hb⟩
    go_wp2_with fail
    go_ret
    exact ⟨rfl, (HB.out _).trans (hb.mono (HB.out _).size)⟩
  by_cases k6 : kind = 6
  · subst k6
    have HC := Lib.hid (fun W => D.crash W m)
    have HB := Lib.hid hB
    clear hB D
    go_enter Try.func8, Try.ntmps8
    go_wp2_with fail
    refine (HC.out _).mono ?_
    rintro e w1 ⟨rfl, hb⟩
    go_wp2_with fail
    go_ret
    exact ⟨rfl, (HB.out _).trans (hb.mono (HB.out _).size)⟩
  by_cases k7 : kind = 7
  · subst k7
    have HC := Lib.hid (fun W => D.up W)
    have HB := Lib.hid hB
    clear hB D
    go_enter Try.func8, Try.ntmps8
    go_wp2_with fail
    refine (HC.out _).mono ?_
    rintro e w1 ⟨rfl, hb⟩
    go_wp2_with fail
    go_ret
    exact ⟨rfl, (HB.out _).trans (hb.mono (HB.out _).size)⟩
  have hv : (if 1 ≤ kind ∧ kind ≤ 4 then 19 else 0 : Int) = 0 := by rw [if_neg]; omega
  rw [hv]
  have g1 : (kind == 1) = false := by rw [beq_eq_false_iff_ne]; exact k1
  have g2 : (kind == 2) = false := by rw [beq_eq_false_iff_ne]; exact k2
  have g3 : (kind == 3) = false := by rw [beq_eq_false_iff_ne]; exact k3
  have g4 : (kind == 4) = false := by rw [beq_eq_false_iff_ne]; exact k4
  have g5 : (kind == 5) = false := by rw [beq_eq_false_iff_ne]; exact k5
  have g6 : (kind == 6) = false := by rw [beq_eq_false_iff_ne]; exact k6
  have g7 : (kind == 7) = false := by rw [beq_eq_false_iff_ne]; exact k7
  have HB := Lib.hid hB
  clear hB D k1 k2 k3 k4 k5 k6 k7 hv
  go_enter Try.func8, Try.ntmps8
  go_wp2_with fail
  go_ret
  exact ⟨rfl, HB.out _⟩

set_option maxRecDepth 100000 in
set_option maxHeartbeats 3200000 in
theorem diskNobody_over (D : NilLaws) (hA : Awake9) {w : World} {a0 : Option Addr} {len0 cap0 : Nat} {l : List Stp} (hl : IsSteps w a0 len0 cap0 l) :
    Calls Try.prog 4 #[.slice a0 len0 cap0] w fun e w' => e = .returned (.bool true) ∧ Below w.heap.size w w' := by
  have hL0 := large_any hl
  cases hb0 : largeL l with
  | true =>
    rw [hb0] at hL0
    have HL0 := Lib.hid hL0
    have HA := Lib.hid hA
    clear hL0 hA hl D hb0
    go_enter Try.func4, Try.ntmps4
    go_wp2_with fail
    refine HL0.out.mono ?_
    rintro e w1 ⟨rfl, n, rfl⟩
    go_wp2_with fail
    refine (HA.out _).mono ?_
    rintro e w2 ⟨rfl, hb⟩
    go_wp2_with fail
    go_ret
    exact ⟨rfl, (below_drewN (Below.refl _ w) n).trans hb⟩
  | false =>
    rw [hb0] at hL0
    have HL0 := Lib.hid hL0
    have HA := Lib.hid hA
    have HD := Lib.hid D
    have HS0 := Lib.hid hl
    have HLn0 := Lib.hid hl.1
    have hl90 : len0 ≤ 90 := by rw [← hl.1]; exact (small_of_large hb0).1
    clear hL0 hA hl D hb0
    go_enter Try.func4, Try.ntmps4
    go_wp2_with fail
    refine HL0.out.mono ?_
    rintro e w1 ⟨rfl, n, rfl⟩
    go_wp2_with fail
    go_loopw [4, 5] (fun v _ wr => ∃ i : Nat, v = .int .i64 (i : Int) ∧ i ≤ len0 ∧ Hid (Below w.heap.size w wr)) (fun v _ _ => len0 - (intOf v).toNat)
    case atStart => exact ⟨0, rfl, Nat.zero_le _, below_drewN (Below.refl _ w) n⟩
    case round =>
      obtain ⟨i, rfl, hil, hbel⟩ := hrel
      by_cases hlt : i < len0
      · obtain ⟨b, o, s, rfl, hbb, hsi, hmem, hok, c0, c1, c2, c3, c4, c5⟩ := (HS0.out.below hbel.out).cell (i := i) (by rw [HLn0.out]; exact hlt)
        have g1 : (i : Int) < (len0 : Int) := by omega
        have hw : IntKind.i64.wrap ((i : Int) + 1) = ((i + 1 : Nat) : Int) := by rw [IntKind.wrap_i64]; omega
        have HC := Lib.hid (doNil_any HD.out wr s.kind s.name s.to s.A s.n s.c s.num s.m)
        obtain ⟨kind, name, to, A, n', c, data, num, m⟩ := s
        simp only at c0 c1 c2 c3 c4 c5 HC
        obtain ⟨x, hx⟩ : ∃ x, (if 1 ≤ kind ∧ kind ≤ 4 then 19 else 0 : Int) = x := ⟨_, rfl⟩
        rw [hx] at HC
        clear hok hmem hsi
        go_wp2_with fail
        refine HC.out.mono ?_
        rintro e w2 ⟨rfl, hb2⟩
        have HB2 : Hid (Below w.heap.size w w2) := hbel.out.trans (hb2.mono hbel.out.size)
        have c0' := (hb2.cell (p := ⟨b, _, none⟩) hbb).trans c0
        clear c0 c1 c2 c3 c4 c5 hb2
        by_cases k1 : 1 ≤ kind
        · have e1 : decide (1 ≤ kind) = true := by rw [decide_eq_true_iff]; exact k1
          by_cases k4 : kind ≤ 4
          · have e4 : decide (kind ≤ 4) = true := by rw [decide_eq_true_iff]; exact k4
            obtain rfl : (19 : Int) = x := by rw [← hx, if_pos ⟨k1, k4⟩]
            clear hx
            go_wp2_with fail
            go_roundw
            case rel => exact ⟨i + 1, rfl, by omega, HB2⟩
            case measure =>
              show len0 - (((i + 1 : Nat) : Int)).toNat < len0 - ((i : Int)).toNat
              omega
          · have e4 : decide (kind ≤ 4) = false := by rw [decide_eq_false_iff_not]; exact k4
            clear hx
            go_wp2_with fail
            go_roundw
            case rel => exact ⟨i + 1, rfl, by omega, HB2⟩
            case measure =>
              show len0 - (((i + 1 : Nat) : Int)).toNat < len0 - ((i : Int)).toNat
              omega
        · have e1 : decide (1 ≤ kind) = false := by rw [decide_eq_false_iff_not]; exact k1
          clear hx
          go_wp2_with fail
          go_roundw
          case rel => exact ⟨i + 1, rfl, by omega, HB2⟩
          case measure =>
            show len0 - (((i + 1 : Nat) : Int)).toNat < len0 - ((i : Int)).toNat
            omega
      · obtain rfl : i = len0 := by omega
        have g1 : decide ((i : Int) < (i : Int)) = false := by rw [decide_eq_false_iff_not]; omega
        go_wp2_with fail
        refine (HD.out.read _ _).mono ?_
        rintro e w2 ⟨rfl, b2⟩
        go_wp2_with fail
        refine (HD.out.down _).mono ?_
        rintro e w3 ⟨rfl, b3⟩
        go_wp2_with fail
        refine (HD.out.files _).mono ?_
        rintro e w4 ⟨rfl, b4⟩
        go_wp2_with fail
        refine (HD.out.list _).mono ?_
        rintro e w5 ⟨rfl, b5⟩
        go_wp2_with fail
        refine (HD.out.size _).mono ?_
        rintro e w6 ⟨rfl, b6⟩
        go_wp2_with fail
        refine (HD.out.calls _).mono ?_
        rintro e w7 ⟨rfl, b7⟩
        have HB7 : Hid (Below wr.heap.size wr w7) := by
          have h3 := b2.trans (b3.mono b2.size)
          have h4 := h3.trans (b4.mono h3.size)
          have h5 := h4.trans (b5.mono h4.size)
          have h6 := h5.trans (b6.mono h5.size)
          exact h6.trans (b7.mono h6.size)
        clear b2 b3 b4 b5 b6 b7
        go_wp2_with fail
        refine (HA.out _).mono ?_
        rintro e w8 ⟨rfl, hb8⟩
        go_wp2_with fail
        go_ret
        have h7 := hbel.out.trans (HB7.out.mono hbel.out.size)
        exact ⟨rfl, h7.trans (hb8.mono h7.size)⟩
end Go.Proofs.Ytillnfjedjahnaa
