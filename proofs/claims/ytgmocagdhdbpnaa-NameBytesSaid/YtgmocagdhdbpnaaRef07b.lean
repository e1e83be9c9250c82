/-
  Package taximeterref07: bytes as digits.
-/
import Derived.Test.YtgmocagdhdbpnaaRef07
import Derived.Test.YtgmocagdhdbpnaaHexN
namespace Go.Proofs.Ytgmocagdhdbpnaa
open Go.RowKit
set_option linter.unusedVariables false

theorem hexs_at (i : Nat) (h : i < 16) : ∃ h2 : i < (⟨#[48, 49, 50, 51, 52, 53, 54, 55, 56, 57, 97, 98, 99, 100, 101, 102]⟩ : ByteArray).size, (⟨#[48, 49, 50, 51, 52, 53, 54, 55, 56, 57, 97, 98, 99, 100, 101, 102]⟩ : ByteArray)[i] = hexD i := by
  have all : ∀ j : Fin 16, (⟨#[48, 49, 50, 51, 52, 53, 54, 55, 56, 57, 97, 98, 99, 100, 101, 102]⟩ : ByteArray)[j.val]'j.isLt = hexD j.val := by decide
  exact ⟨h, all ⟨i, h⟩⟩

/-- A text is answered; the world drew at most. -/
def SaysQ (l : List UInt8) (w : World) (x : Ending) (w' : World) : Prop := ∃ (s : ByteArray) (q : Nat), x = .returned (.string s) ∧ bl s = l ∧ w' = w.drewN q

set_option maxHeartbeats 800000 in
theorem rhex_any (A : Option Addr) (n c : Nat) (l : List UInt8) (w : World) (hn : Hid (l.length = n)) (hc : n ≤ c) (hl : n ≤ 1152921504606846976) (hv : Bs w w.heap.size A l) : Calls Try.prog 7 #[.slice A n c] w (SaysQ (hexL l) w) := by
  rcases Nat.eq_zero_or_pos n with h0 | h0
  · have HF : Hid (hexL l = [45]) := by
      show _ = _
      rw [List.eq_nil_of_length_eq_zero (hn.out.trans h0)]
      rfl
    subst h0
    go_enter Try.func7, Try.ntmps7
    go_wp2_with fail
    go_ret
    exact ⟨_, 0, rfl, by rw [HF.out]; rfl, rfl⟩
  · have HF : Hid (hexL l = l.flatMap hex2) := by
      show _ = _
      unfold hexL
      rw [if_neg (by rintro rfl; have := hn.out; simp at this; omega)]
    have hz : ((n : Int) == 0) = false := by rw [beq_eq_false_iff_ne]; omega
    obtain ⟨b, o, rfl, hb, hcell⟩ := hv.at_ (by rw [hn.out]; exact h0)
    have HC := Lib.hid hcell
    clear hcell
    go_enter Try.func7, Try.ntmps7
    go_wp2_with fail
    go_loopw [4, 5] (fun v i wr => ∃ (j q : Nat) (s : ByteArray), j ≤ n ∧ i = .int .i64 j ∧ v = .string s ∧ Hid (bl s = (l.take j).flatMap hex2) ∧ wr = w.drewN q) (fun _ i _ => n - (intOf i).toNat)
    case atStart => exact ⟨0, 0, ⟨#[]⟩, Nat.zero_le _, rfl, rfl, Lib.hid rfl, rfl⟩
    case round =>
      obtain ⟨j, q, s, hj, rfl, rfl, HS, rfl⟩ := hrel
      by_cases hlt : j < n
      · have hjl : j < l.length := by rw [hn.out]; exact hlt
        have c1 := HC.out j hjl
        have hst := hex_take l j hjl
        have hsz : s.size = 2 * j := by
          rw [← bl_length, HS.out, hex_len, List.length_take, Nat.min_eq_left (by omega)]
        have hxb := UInt8.toNat_lt l[j]
        rw [← HS.out, show hex2 l[j] = [hexD (l[j].toNat / 16), hexD (l[j].toNat % 16)] from rfl] at hst
        obtain ⟨x, hx⟩ : ∃ x, l[j].toNat = x := ⟨_, rfl⟩
        rw [hx] at c1 hst hxb
        obtain ⟨p, hp⟩ : ∃ p, x / 16 = p := ⟨_, rfl⟩
        obtain ⟨r, hr⟩ : ∃ r, x % 16 = r := ⟨_, rfl⟩
        rw [hp, hr] at hst
        have hp1 : p < 16 := by omega
        have hr1 : r < 16 := by omega
        have d1 : (x : Int) / 16 = (p : Int) := by omega
        have d2 : (x : Int).tdiv 16 = (p : Int) := by rw [Int.tdiv_eq_ediv_of_nonneg (by omega)]; exact d1
        have d3 : (x : Int) % 16 = (r : Int) := by omega
        have d4 : (x : Int).tmod 16 = (r : Int) := by rw [Int.tmod_eq_emod_of_nonneg (by omega)]; exact d3
        have d5 : IntKind.u8.wrap ((p : Int) + 1) = (p : Int) + 1 := by rw [IntKind.wrap_u8]; omega
        have d6 : IntKind.u8.wrap ((r : Int) + 1) = (r : Int) + 1 := by rw [IntKind.wrap_u8]; omega
        obtain ⟨a1, a2⟩ := hexs_at p hp1
        obtain ⟨b1, b2⟩ := hexs_at r hr1
        obtain ⟨D1, e1, e2, e3⟩ := cut_one (P := Try.prog) Try.underlying9 ⟨#[48, 49, 50, 51, 52, 53, 54, 55, 56, 57, 97, 98, 99, 100, 101, 102]⟩ .u8 .u8 p a1 (p : Int) ((p : Int) + 1) rfl rfl
        obtain ⟨D2, f1, f2, f3⟩ := cut_one (P := Try.prog) Try.underlying9 ⟨#[48, 49, 50, 51, 52, 53, 54, 55, 56, 57, 97, 98, 99, 100, 101, 102]⟩ .u8 .u8 r b1 (r : Int) ((r : Int) + 1) rfl rfl
        rw [a2] at e2
        rw [b2] at f2
        have hnext : bl (s ++ D1 ++ D2) = (l.take (j + 1)).flatMap hex2 := by
          rw [bl_append, bl_append, e2, f2, hst, List.append_assoc]
          rfl
        have HN := Lib.hid hnext
        have hji : (j : Int) < (n : Int) := by omega
        clear hst hnext HS hx hp hr a1 a2 b1 b2 e2 f2 hjl hxb
        go_wp2_with fail
        go_quiet (fail)
        go_wp2_with fail
        go_roundw
        case rel => exact ⟨j + 1, q + nq, _, by omega, by go_num, rfl, HN, by simp⟩
        case measure => simp [intOf]; omega
      · obtain rfl : j = n := by omega
        have HE : Hid (bl s = hexL l) := by show _ = _; rw [HS.out, HF.out, ← hn.out, List.take_length]
        go_wp2_with fail
        go_ret
        exact ⟨s, q, rfl, HE.out, rfl⟩
theorem rhexes_any (s : ByteArray) (w : World) (hs : s.size ≤ maxLen) : Calls Try.prog 9 #[.string s] w fun e w' => e = .returned (.bool (hexesL (bl s))) ∧ w = w' := by
  have HO := Lib.hid (only_any s ⟨#[48, 49, 50, 51, 52, 53, 54, 55, 56, 57, 97, 98, 99, 100, 101, 102]⟩ w hs (by decide))
  rw [show bl ⟨#[48, 49, 50, 51, 52, 53, 54, 55, 56, 57, 97, 98, 99, 100, 101, 102]⟩ = hexS from rfl] at HO
  have hlen := bl_length s
  cases h1 : s.toList == [45] with
  | true =>
    have HF : Hid (hexesL (bl s) = true) := by show _ = _; unfold hexesL; rw [← bl_toList, h1]; rfl
    clear HO hlen
    go_enter Try.func9, Try.ntmps9
    go_wp2_with fail
    go_ret
    exact ⟨by rw [HF.out]; rfl, rfl⟩
  | false =>
    have hf : hexesL (bl s) = (decide (0 < s.size) && decide (s.size % 2 = 0) && onlyL (bl s) hexS) := by
      unfold hexesL
      rw [← bl_toList, h1, bl_toList, hlen]
      rfl
    rcases Nat.eq_zero_or_pos s.size with h0 | h0
    · have HF : Hid (hexesL (bl s) = false) := by show _ = _; rw [hf, decide_eq_false (by omega)]; rfl
      clear HO hlen hf
      go_enter Try.func9, Try.ntmps9
      go_wp2_with fail
      go_ret
      exact ⟨by rw [HF.out]; rfl, rfl⟩
    · by_cases h2 : s.size % 2 = 0
      · have HF : Hid (hexesL (bl s) = onlyL (bl s) hexS) := by show _ = _; rw [hf, decide_eq_true h0, decide_eq_true h2]; rfl
        have h3 : ((s.size : Int) % 2 == 0) = true := by rw [beq_iff_eq]; omega
        obtain ⟨b, hb⟩ : ∃ b, onlyL (bl s) hexS = b := ⟨_, rfl⟩
        rw [hb] at HF HO
        clear hlen hf hb h2
        go_enter Try.func9, Try.ntmps9
        go_wp2_with fail
        refine (HO.out).mono ?_
        rintro e' w1 ⟨rfl, rfl⟩
        go_wp2_with fail
        go_ret
        exact ⟨by rw [HF.out]; rfl, rfl⟩
      · have HF : Hid (hexesL (bl s) = false) := by show _ = _; rw [hf, decide_eq_false h2, Bool.and_false]; rfl
        have h3 : ((s.size : Int) % 2 == 0) = false := by rw [beq_eq_false_iff_ne]; omega
        clear HO hlen hf h2
        go_enter Try.func9, Try.ntmps9
        go_wp2_with fail
        go_ret
        exact ⟨by rw [HF.out]; rfl, rfl⟩
end Go.Proofs.Ytgmocagdhdbpnaa
