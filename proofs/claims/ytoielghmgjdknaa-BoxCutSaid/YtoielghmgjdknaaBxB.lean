/-
  Package box: told, Next.
-/
import Derived.Test.YtoielghmgjdknaaBxA
namespace Go.Proofs.Ytoielghmgjdknaa
open Go.RowKit
set_option linter.unusedVariables false

/-- What told tells of bytes: how many the first box has, and what is wrong. -/
def toldX (r : List UInt8) : Nat × Int :=
  if r.length < 2 then (0, 1)
  else if leV (r.take 2) = 0 then (0, 2)
  else if 4096 < leV (r.take 2) then (0, 3)
  else if r.length < leV (r.take 2) + 6 then (0, 1)
  else (leV (r.take 2) + 6, 0)
theorem toldX_bad {r : List UInt8} (h : (toldX r).2 ≠ 0) : boxAt r = ([], 0, (toldX r).2) := by
  unfold toldX at h ⊢
  unfold boxAt
  split
  · rfl
  · split
    · rfl
    · split
      · rfl
      · split
        · rfl
        · rename_i h1 h2 h3 h4
          rw [if_neg h1, if_neg h2, if_neg h3, if_neg h4] at h
          exact absurd rfl h
theorem toldX_good {r : List UInt8} (h : (toldX r).2 = 0) : ∃ N, 1 ≤ N ∧ N ≤ 4096 ∧ (toldX r).1 = N + 6 ∧ N + 6 ≤ r.length ∧ boxAt r = if sealB (r.take (N + 6)) = false then ([], 0, 4) else ((r.drop 2).take N, N + 6, 0) := by
  unfold toldX at h ⊢
  unfold boxAt
  split at h
  · cases h
  · split at h
    · cases h
    · split at h
      · cases h
      · split at h
        · cases h
        · rename_i h1 h2 h3 h4
          refine ⟨leV (r.take 2), by omega, by omega, ?_, by omega, ?_⟩
          · rw [if_neg h1, if_neg h2, if_neg h3, if_neg h4]
          · rw [if_neg h1, if_neg h2, if_neg h3, if_neg h4]

def ToldB (r : List UInt8) (w : World) (x : Ending) (w' : World) : Prop := x = .returned (.tuple #[.int .i64 ((toldX r).1 : Int), .int .i64 (toldX r).2]) ∧ Below w.heap.size w w'

theorem leV_16 (r : List UInt8) (h : r.length = 2) : leV r < 65536 := by
  match r, h with
  | [a, b], _ =>
    have := a.toNat_lt
    have := b.toNat_lt
    simp [leV]
    omega

set_option maxRecDepth 100000 in
set_option maxHeartbeats 3200000 in
theorem told_any (A : Option Addr) (m c : Nat) (r : List UInt8) (B : Nat) (w : World) (hm : Hid (r.length = m)) (hmc : m ≤ c) (hcm : c ≤ maxLen) (hbs : Bs w B A r) (hB : B ≤ w.heap.size) (hm6 : m ≤ 65536) :
    Calls Try.prog 23 #[.slice A m c] w (ToldB r w) := by
  have hlen := hm.out
  by_cases h2 : m < 2
  · have HT : Hid (toldX r = (0, 1)) := by show _ = _; unfold toldX; rw [if_pos (by omega)]
    have HF : Hid (takeF r 0 0 (sizeI 2) = ([], 0, 1)) := by
      show _ = _
      unfold takeF
      rw [show sizeI 2 = 2 from rfl, if_neg (by omega), if_pos (by omega)]
    have hs1 := fun W => slice_to u8E W A m c m hmc
    have HNC := Lib.hid (newCursor_any A m c r B w hm hbs hB (by omega))
    have b2 : (m : Int) < 2 := by omega
    have b3 : ¬ (2 : Int) < (m : Int) := by omega
    have b4 : (2 : Int) ≠ (m : Int) := by omega
    have HN : Hid (leV [] = 0) := rfl
    clear hbs hm hlen
    go_enter Try.func23, Try.ntmps23
    go_wp2_with fail
    refine HNC.out.mono ?_
    rintro e w1 ⟨g, rfl, hg, hcur, hb⟩
    have HB1 := Lib.hid hb
    have hnum := cnumber_any 2 hcur
    rw [HF.out, HN.out] at hnum
    have HNU := Lib.hid hnum
    clear hnum hb hcur
    go_wp2_with fail
    refine HNU.out.mono ?_
    rintro e w2 ⟨rfl, hcur, hgr, hsz⟩
    have HB2 : Hid (Below w.heap.size w w2) := HB1.out.grown hgr HB1.out.size (fun q hq => by cases hq; exact hg)
    have HER := Lib.hid (err_any hcur)
    clear hcur hgr hsz hg
    go_wp2_with fail
    refine HER.out.mono ?_
    rintro e w3 ⟨rfl, rfl⟩
    go_wp2_with fail
    refine HER.out.mono ?_
    rintro e w3 ⟨rfl, rfl⟩
    go_wp2_with fail
    go_ret2
    exact ⟨by rw [HT.out]; rfl, HB2.out⟩
  have h2r : (r.take 2).length = 2 := by rw [List.length_take]; omega
  have h16 := leV_16 _ h2r
  obtain ⟨N, hN⟩ : ∃ N, leV (r.take 2) = N := ⟨_, rfl⟩
  have hT : toldX r = if wrongX (N : Int) ≠ 0 then (0, wrongX (N : Int)) else if m < N + 6 then (0, 1) else (N + 6, 0) := by
    unfold toldX
    rw [hlen, if_neg h2, hN]
    by_cases q1 : N = 0
    · subst q1; rfl
    · by_cases q2 : 4096 < N
      · have e1 : wrongX (N : Int) = 3 := by unfold wrongX; rw [if_neg (show ¬ (N : Int) ≤ 0 by omega), if_pos (show (4096 : Int) < (N : Int) by omega)]
        rw [if_neg q1, if_pos q2, e1]; rfl
      · have e1 : wrongX (N : Int) = 0 := by unfold wrongX; rw [if_neg (show ¬ (N : Int) ≤ 0 by omega), if_neg (show ¬ (4096 : Int) < (N : Int) by omega)]
        rw [if_neg q1, if_neg q2, e1]; rfl
  have HF : Hid (takeF (r.take 2) 0 0 (sizeI 2) = (r.take 2, 2, 0)) := by
    show _ = _
    unfold takeF
    rw [show sizeI 2 = 2 from rfl, if_neg (by omega), if_neg (by omega)]
    simp only [List.drop_zero]
    rw [List.take_of_length_le (by rw [h2r]; decide)]
    rfl
  have hs1 : ∀ W : World, (Instr.slice 22 (.slice A m c) none (some (.int .i64 2)) none).run Try.prog W = .ok (.slice A 2 c) W := fun W => slice_to u8E W A m c 2 (by omega)
  have HNC := Lib.hid (newCursor_any A 2 c (r.take 2) B w (Lib.hid h2r) (hbs.take 2) hB (by omega))
  have b2 : ¬ (m : Int) < 2 := by omega
  have HL := Lib.hid hN
  have hwr : IntKind.i64.wrap (N : Int) = (N : Int) := by rw [IntKind.wrap_i64]; omega
  obtain ⟨x, hx⟩ : ∃ x, wrongX (N : Int) = x := ⟨_, rfl⟩
  have HX := Lib.hid hx
  obtain ⟨Z, hZ⟩ : ∃ Z, N + 6 = Z := ⟨_, rfl⟩
  rw [hx, hZ] at hT
  have hSZ : x = 0 → sizeX (N : Int) = (Z : Int) := fun h0 => by
    rw [h0] at hx
    have : 1 ≤ (N : Int) ∧ (N : Int) ≤ 4096 := by
      unfold wrongX at hx
      split at hx
      · cases hx
      · split at hx
        · cases hx
        · omega
    unfold sizeX
    rw [if_pos this]
    omega
  have hcase : (Hid (x = 0) ∧ Hid (sizeX (N : Int) = (Z : Int)) ∧ m < Z ∧ Hid (toldX r = (0, 1))) ∨ (Hid (x = 0) ∧ Hid (sizeX (N : Int) = (Z : Int)) ∧ ¬ m < Z ∧ Hid (toldX r = (Z, 0))) ∨ ((x != 0) = true ∧ Hid (toldX r = (0, x))) := by
    by_cases q : x = 0
    · rw [if_neg (by simpa using q)] at hT
      by_cases q2 : m < Z
      · rw [if_pos q2] at hT
        exact .inl ⟨q, hSZ q, q2, hT⟩
      · rw [if_neg q2] at hT
        exact .inr (.inl ⟨q, hSZ q, q2, hT⟩)
    · rw [if_pos q] at hT
      exact .inr (.inr ⟨by simpa using q, hT⟩)
  clear hbs hm hlen h2r h16 hN hT hx hZ hSZ h2
  rcases hcase with ⟨q0, HSZ, q2, HT⟩ | ⟨q0, HSZ, q2, HT⟩ | ⟨q0, HT⟩
  · go_enter Try.func23, Try.ntmps23
    go_wp2_with fail
    refine HNC.out.mono ?_
    rintro e w1 ⟨g, rfl, hg, hcur, hb⟩
    have HB1 := Lib.hid hb
    have hnum := cnumber_any 2 hcur
    rw [HF.out, HL.out] at hnum
    have HNU := Lib.hid hnum
    clear hnum hb hcur
    go_wp2_with fail
    refine HNU.out.mono ?_
    rintro e w2 ⟨rfl, hcur, hgr, hsz⟩
    have HB2 : Hid (Below w.heap.size w w2) := HB1.out.grown hgr HB1.out.size (fun q hq => by cases hq; exact hg)
    have HER := Lib.hid (err_any hcur)
    clear hcur hgr hsz hg
    go_wp2_with fail
    refine HER.out.mono ?_
    rintro e w3 ⟨rfl, rfl⟩
    go_wp2_with fail
    refine (wrong_any _ _).mono ?_
    rintro e w3 ⟨rfl, rfl⟩
    rw [HX.out, q0.out]
    go_wp2_with fail
    refine (bxsize_any _ _).mono ?_
    rintro e w3 ⟨rfl, rfl⟩
    rw [HSZ.out]
    go_wp2_with fail
    go_ret2
    exact ⟨by rw [HT.out]; rfl, HB2.out⟩
  · go_enter Try.func23, Try.ntmps23
    go_wp2_with fail
    refine HNC.out.mono ?_
    rintro e w1 ⟨g, rfl, hg, hcur, hb⟩
    have HB1 := Lib.hid hb
    have hnum := cnumber_any 2 hcur
    rw [HF.out, HL.out] at hnum
    have HNU := Lib.hid hnum
    clear hnum hb hcur
    go_wp2_with fail
    refine HNU.out.mono ?_
    rintro e w2 ⟨rfl, hcur, hgr, hsz⟩
    have HB2 : Hid (Below w.heap.size w w2) := HB1.out.grown hgr HB1.out.size (fun q hq => by cases hq; exact hg)
    have HER := Lib.hid (err_any hcur)
    clear hcur hgr hsz hg
    go_wp2_with fail
    refine HER.out.mono ?_
    rintro e w3 ⟨rfl, rfl⟩
    go_wp2_with fail
    refine (wrong_any _ _).mono ?_
    rintro e w3 ⟨rfl, rfl⟩
    rw [HX.out, q0.out]
    go_wp2_with fail
    refine (bxsize_any _ _).mono ?_
    rintro e w3 ⟨rfl, rfl⟩
    rw [HSZ.out]
    go_wp2_with fail
    refine (bxsize_any _ _).mono ?_
    rintro e w3 ⟨rfl, rfl⟩
    rw [HSZ.out]
    go_wp2_with fail
    go_ret2
    exact ⟨by rw [HT.out]; rfl, HB2.out⟩
  · go_enter Try.func23, Try.ntmps23
    go_wp2_with fail
    refine HNC.out.mono ?_
    rintro e w1 ⟨g, rfl, hg, hcur, hb⟩
    have HB1 := Lib.hid hb
    have hnum := cnumber_any 2 hcur
    rw [HF.out, HL.out] at hnum
    have HNU := Lib.hid hnum
    clear hnum hb hcur
    go_wp2_with fail
    refine HNU.out.mono ?_
    rintro e w2 ⟨rfl, hcur, hgr, hsz⟩
    have HB2 : Hid (Below w.heap.size w w2) := HB1.out.grown hgr HB1.out.size (fun q hq => by cases hq; exact hg)
    have HER := Lib.hid (err_any hcur)
    clear hcur hgr hsz hg
    go_wp2_with fail
    refine HER.out.mono ?_
    rintro e w3 ⟨rfl, rfl⟩
    go_wp2_with fail
    refine (wrong_any _ _).mono ?_
    rintro e w3 ⟨rfl, rfl⟩
    rw [HX.out]
    go_wp2_with fail
    go_ret2
    exact ⟨by rw [HT.out]; rfl, HB2.out⟩
end Go.Proofs.Ytoielghmgjdknaa
