/-
  What package box is to do; package taximeterlaw12: awake and BoxNexts, over that.
-/
import Derived.Test.YtoielghmgjdknaaRef12b
import Derived.Test.YtoielghmgjdknaaBoxM
import Derived.Lib.SlBytesConst
namespace Go.Proofs.Ytoielghmgjdknaa
open Go.RowKit
set_option linter.unusedVariables false

/-- A call's answer: bytes in new memory, and what is wrong. -/
def RetX (l : List UInt8) (e : Int) (w : World) (x : Ending) (w' : World) : Prop :=
  ∃ A n c, x = .returned (.tuple #[.slice A n c, .int .i64 e]) ∧ Hid (l.length = n) ∧ Own w' w.heap.size 5 (.slice A n c) (l.map bv) ∧ n ≤ c ∧ c ≤ maxLen ∧ Bs w' w'.heap.size A l ∧ Below w.heap.size w w'
def putV (b body : List UInt8) : List UInt8 := if body.length = 0 ∨ 4096 < body.length then [] else b ++ boxL body
def putX (body : List UInt8) : Int := if body.length = 0 then 2 else if 4096 < body.length then 3 else 0
def sizeX (n : Int) : Int := if 1 ≤ n ∧ n ≤ 4096 then n + 6 else 0
/-- What Next answers: bytes in new memory, or below block B, as those that came in. -/
def NextB (l : List UInt8) (p : Int) (B : Nat) (w : World) (x : Ending) (w' : World) : Prop :=
  ∃ A n c, x = .returned (.tuple #[.slice A n c, .int .i64 ((nextL l p).2.1 : Int), .int .i64 (nextL l p).2.2]) ∧ Hid ((nextL l p).1.length = n) ∧ n ≤ c ∧ c ≤ maxLen ∧ Bs w' w'.heap.size A (nextL l p).1 ∧ Below w.heap.size w w' ∧ ∀ b o s, A = some ⟨b, o, s⟩ → b < B ∨ w.heap.size ≤ b
/-- What box.Put, box.Size, box.Next and box.Valid are to do. -/
def BoxPutLaw : Prop := ∀ (A1 A2 : Option Addr) (n1 n2 c1 c2 : Nat) (b body : List UInt8) (w : World), Hid (b.length = n1) → Hid (body.length = n2) → n1 ≤ c1 → c1 ≤ maxLen → n2 ≤ c2 → c2 ≤ maxLen → n1 ≤ 65536 → n2 ≤ 65536 → Bs w w.heap.size A1 b → Bs w w.heap.size A2 body →
  Calls Try.prog 8 #[.slice A1 n1 c1, .slice A2 n2 c2] w (RetX (putV b body) (putX body) w)
def BoxSizeLaw : Prop := ∀ (n : Int) (w : World), 0 ≤ n → n ≤ 65536 → Calls Try.prog 9 #[.int .i64 n] w fun e w' => e = .returned (.int .i64 (sizeX n)) ∧ Below w.heap.size w w'
def BoxNextLaw : Prop := ∀ (A : Option Addr) (m c : Nat) (l : List UInt8) (p : Int) (B : Nat) (w : World), Hid (l.length = m) → m ≤ c → c ≤ maxLen → Bs w B A l → B ≤ w.heap.size → m ≤ 65536 → (Lit.int .i64 p).wf = true → Calls Try.prog 12 #[.slice A m c, .int .i64 p] w (NextB l p B w)
def BoxValidLaw : Prop := ∀ (A : Option Addr) (m c : Nat) (l : List UInt8) (w : World), Hid (l.length = m) → m ≤ c → c ≤ maxLen → Bs w w.heap.size A l → m ≤ 65536 → Calls Try.prog 14 #[.slice A m c] w (ValidA l w)
def Awake12 : Prop := ∀ w : World, Calls Try.prog 7 #[] w fun e w' => e = .returned (.bool true) ∧ Below w.heap.size w w'

set_option maxRecDepth 100000 in
set_option maxHeartbeats 1600000 in
theorem awake12_over (hP : BoxPutLaw) (hS : BoxSizeLaw) : Awake12 := by
  intro w
  have hcv := Lib.run_convert_bytes_const w 22 5 #[.int .u8 97] 1 1 Try.underlying22 Try.underlying5
  have hB : Bs (w.alloc (.cells #[.int .u8 97] 5 (1, 2))) (w.alloc (.cells #[.int .u8 97] 5 (1, 2))).heap.size (some ⟨w.heap.size, 0, none⟩) [97] := by
    have := Bs.new w #[.int .u8 97] 5 (1, 2) [97] rfl
    simpa using this
  have hb0 : Below w.heap.size w (w.alloc (.cells #[.int .u8 97] 5 (1, 2))) := (Below.refl _ w).alloc (Nat.le_refl _) _
  obtain ⟨wa, hwa⟩ : ∃ wa, w.alloc (.cells #[.int .u8 97] 5 (1, 2)) = wa := ⟨_, rfl⟩
  rw [hwa] at hB hb0
  have h1 := hP none (some ⟨w.heap.size, 0, none⟩) 0 1 0 1 [] [97] wa (Lib.hid rfl) (Lib.hid rfl) (Nat.le_refl _) (Nat.zero_le _) (Nat.le_refl _) (by unfold maxLen; omega) (by omega) (by omega) (Bs.nil _ _ _) hB
  rw [show putX [97] = 0 from rfl, show putV [] [97] = [1, 0, 97, 101, 33, 136, 86] from by decide +kernel] at h1
  have H1 := Lib.hid h1
  have HS := Lib.hid (fun V => hS 1 V (by decide) (by decide))
  have HB0 := Lib.hid hb0
  clear h1 hP hS hB hb0
  go_enter Try.func7, Try.ntmps7
  go_wp2_with fail
  refine H1.out.mono ?_
  rintro e' w1 ⟨A, n, c, rfl, hn, -, hnc, hcm, hv, hb1⟩
  obtain rfl : 7 = n := hn.out
  obtain ⟨b, o, rfl, hbb, hcell⟩ := hv.at_ (by decide)
  have hc0 : w1.cell? ⟨b, o, none⟩ = some (.int .u8 1) := hcell 0 (by decide)
  have hc2 : w1.cell? ⟨b, o + 2, none⟩ = some (.int .u8 97) := hcell 2 (by decide)
  have HB1 := Lib.hid (HB0.out.trans (hb1.mono HB0.out.size))
  clear hcell hb1
  go_wp2_with fail
  refine (HS.out _).mono ?_
  rintro e' w2 ⟨rfl, hb2⟩
  rw [show sizeX 1 = 7 from rfl]
  go_wp2_with fail
  go_ret
  exact ⟨rfl, HB1.out.trans (hb2.mono HB1.out.size)⟩

set_option maxRecDepth 100000 in
set_option maxHeartbeats 3200000 in
theorem boxNexts_over (hN : BoxNextLaw) (hV : BoxValidLaw) (hA : Awake12) (A : Option Addr) (m c : Nat) (l : List UInt8) (p : Int) (w : World) (hm : Hid (l.length = m)) (hmc : m ≤ c) (hcm : c ≤ maxLen) (hbs : Bs w w.heap.size A l) (hp : (Lit.int .i64 p).wf = true) :
    Calls Try.prog 4 #[.slice A m c, .int .i64 p] w fun e w' => e = .returned (.bool true) ∧ Below w.heap.size w w' := by
  have HAW := Lib.hid hA
  by_cases hbig : 600 < m
  · have b2 : (600 : Int) < (m : Int) := by omega
    clear hbig hbs hm hN hV hA
    go_enter Try.func4, Try.ntmps4
    go_wp2_with fail
    refine (HAW.out _).mono ?_
    rintro e w1 ⟨rfl, hb⟩
    go_wp2_with fail
    go_ret
    exact ⟨rfl, hb⟩
  have b2 : ¬ (600 : Int) < (m : Int) := by omega
  have HBK := Lib.hid (fun (V : World) (hV : Below w.heap.size w V) => (hbs.below hV (Nat.le_refl _)).more hV.size)
  have HN1 := Lib.hid (hN A m c l p w.heap.size w hm hmc hcm hbs (Nat.le_refl _) (by omega) hp)
  have HN2 := Lib.hid (fun (V : World) (hV : Below w.heap.size w V) => rnext_any A m c l p V.heap.size V hm hmc hcm (HBK.out V hV) (Nat.le_refl _) (by omega))
  have HV1 := Lib.hid (fun (V : World) (hB : Below w.heap.size w V) => hV A m c l V hm hmc hcm (HBK.out V hB) (by omega))
  have HV2 := Lib.hid (fun (V : World) (hB : Below w.heap.size w V) => rvalid_any A m c l V hm hmc hcm (HBK.out V hB) (by omega))
  have HLN : Hid ((nextL l p).1.length ≤ 65536) := by
    show _ ≤ _
    have hl := hm.out
    unfold nextL
    split
    · exact Nat.zero_le _
    · split
      · rename_i h1 h2
        have := boxAt_fit h2
        show (boxAt (l.drop p.toNat)).1.length ≤ 65536
        omega
      · exact Nat.zero_le _
  have HLV : Hid ((validL l).1.length ≤ 65536) := by
    show _ ≤ _
    have key : ∀ (f : Nat) (r : List UInt8), (validF f r).1.length ≤ f := fun f => by
      induction f with
      | zero => intro r; exact Nat.le_refl _
      | succ f ih =>
        intro r
        rw [validF_cons]
        split
        · simp only [List.length_cons]
          have := ih (r.drop (boxAt r).2.1)
          omega
        · exact Nat.zero_le _
    have := key (l.length + 1) l
    have := hm.out
    unfold validL
    omega
  unfold NextB at HN1
  unfold NextA at HN2
  unfold ValidA at HV1 HV2
  obtain ⟨⟨nb, np, ne⟩, hne⟩ : ∃ x, nextL l p = x := ⟨_, rfl⟩
  obtain ⟨⟨vl, vn⟩, hvl⟩ : ∃ x, validL l = x := ⟨_, rfl⟩
  rw [hne] at HN1 HN2 HLN
  rw [hvl] at HV1 HV2 HLV
  simp only at HN1 HN2 HLN HV1 HV2 HLV
  have e1 : (ne == ne) = true := by simp
  have e2 : ((np : Int) == (np : Int)) = true := by simp
  have e3 : ((vn : Int) == (vn : Int)) = true := by simp
  clear hbig hbs hm hN hV hA hne hvl HBK
  go_enter Try.func4, Try.ntmps4
  go_wp2_with fail
  refine HN1.out.mono ?_
  rintro e w1 ⟨A1, n1, c1, rfl, hn1, h11, h12, hbs1, hb1, -⟩
  have HB1 := Lib.hid hb1
  have HS1 := Lib.hid hbs1
  clear hbs1 hb1
  go_wp2_with fail
  refine (HN2.out _ HB1.out).mono ?_
  rintro e w2 ⟨A2, n2, c2, rfl, hn2, h21, h22, hbs2, hb2⟩
  have HB2 : Hid (Below w.heap.size w w2) := HB1.out.trans (hb2.mono HB1.out.size)
  have HS21 : Hid (Bs w2 w2.heap.size A1 nb) := (HS1.out.below hb2 (Nat.le_refl _)).more hb2.size
  have HS22 : Hid (Bs w2 w2.heap.size A2 nb) := hbs2.more hb2.size
  clear hbs2 hb2
  go_wp2_with fail
  refine (HV1.out _ HB2.out).mono ?_
  rintro e w3 ⟨A3, n3, c3, rfl, hn3, h31, h32, hbs3, hb3⟩
  have HB3 : Hid (Below w.heap.size w w3) := HB2.out.trans (hb3.mono HB2.out.size)
  have HS31 : Hid (Bs w3 w3.heap.size A1 nb) := (HS21.out.below hb3 (Nat.le_refl _)).more hb3.size
  have HS32 : Hid (Bs w3 w3.heap.size A2 nb) := (HS22.out.below hb3 (Nat.le_refl _)).more hb3.size
  have HS33 := Lib.hid hbs3
  clear hbs3 hb3
  go_wp2_with fail
  refine (HV2.out _ HB3.out).mono ?_
  rintro e w4 ⟨A4, n4, c4, rfl, hn4, h41, h42, hbs4, hb4⟩
  have HB4 : Hid (Below w.heap.size w w4) := HB3.out.trans (hb4.mono HB3.out.size)
  have HS44 := Lib.hid hbs4
  have HS43 : Hid (Ls w4 w4.heap.size A3 vl) := (HS33.out.below hb4 (Nat.le_refl _)).more hb4.size
  have HSA : Hid (Calls Try.prog 10 #[.slice A1 n1 c1, .slice A2 n2 c2] w4 fun e w' => e = .returned (.bool true) ∧ ∃ q, w' = w4.drewN q) := by
    have h := same_any A1 A2 n1 n2 c1 c2 nb nb w4.heap.size w4 hn1.out hn2.out ((HS31.out.below hb4 (Nat.le_refl _)).more hb4.size) ((HS32.out.below hb4 (Nat.le_refl _)).more hb4.size) (by have := HLN.out; unfold maxLen; omega) (by have := HLN.out; unfold maxLen; omega)
    rw [decide_eq_true rfl] at h
    exact h
  clear hbs4 hb4
  go_wp2_with fail
  refine HSA.out.mono ?_
  rintro e w5 ⟨rfl, q5, hw5⟩
  have HB5 : Hid (Below w.heap.size w w5) := by show Below _ _ _; rw [hw5]; exact below_drewN HB4.out q5
  have HLS : Hid (Calls Try.prog 16 #[.slice A3 n3 c3, .slice A4 n4 c4] w5 fun e w' => e = .returned (.bool true) ∧ ∃ q, w' = w5.drewN q) := by
    have h := rlists_any A3 A4 n3 n4 c3 c4 vl vl w4.heap.size w5 hn3 hn4 (by rw [hw5]; exact HS43.out) (by rw [hw5]; exact HS44.out) (by rw [← hn3.out]; exact HLV.out) (by rw [← hn4.out]; exact HLV.out)
    rw [decide_eq_true rfl] at h
    exact h
  clear hw5
  go_wp2_with fail
  refine HLS.out.mono ?_
  rintro e w6 ⟨rfl, q6, hw6⟩
  have HB6 : Hid (Below w.heap.size w w6) := by show Below _ _ _; rw [hw6]; exact below_drewN HB5.out q6
  clear hw6
  go_wp2_with fail
  refine (HAW.out _).mono ?_
  rintro e w7 ⟨rfl, hb7⟩
  go_wp2_with fail
  go_ret
  exact ⟨rfl, HB6.out.trans (hb7.mono HB6.out.size)⟩
end Go.Proofs.Ytoielghmgjdknaa
