/-
  crc.Open.
-/
import Derived.Test.YtoielghmgjdknaaCrc2
import Derived.Test.YtoielghmgjdknaaCrcB
import Derived.Deep.RegionHeld3
namespace Go.Proofs.Ytoielghmgjdknaa
open Go.RowKit
set_option linter.unusedVariables false

/-- Are bytes a seal? -/
def sealB (l : List UInt8) : Bool := decide (4 ≤ l.length ∧ leV (l.drop (l.length - 4)) = sumN (l.take (l.length - 4)))
/-- What Open tells. -/
def openB (l : List UInt8) : List UInt8 := if sealB l then l.take (l.length - 4) else []

theorem sealB_app (l q : List UInt8) (hq : q.length = 4) : sealB (l ++ q) = decide (leV q = sumN l) := by
  unfold sealB
  have h1 : (l ++ q).length - 4 = l.length := by simp; omega
  rw [h1, List.drop_left, List.take_left]
  have h2 : 4 ≤ (l ++ q).length := by simp; omega
  simp [hq]
theorem leV_sum (l : List UInt8) : leV (leB 4 (sumN l)) = sumN l := by
  rw [leV_leB, Nat.mod_eq_of_lt]
  have := sumN_lt l
  omega
theorem sealB_seal (l : List UInt8) : sealB (l ++ leB 4 (sumN l)) = true := by
  rw [sealB_app _ _ (leB_length 4 _), leV_sum]
  simp
theorem openB_seal (l : List UInt8) : openB (l ++ leB 4 (sumN l)) = l := by
  unfold openB
  rw [sealB_seal]
  simp
theorem not_sealed (l : List UInt8) (a : Nat) (ha : a ≤ l.length) (x : List UInt8) (h : ∃ k, k < 4 ∧ x.getD k 0 ≠ 0) : sealB (spoil (l ++ leB 4 (sumN l)) a x 4) = false := by
  have hlen : (l ++ leB 4 (sumN l)).length = l.length + 4 := by simp
  rw [← Bool.not_eq_true]
  intro hs
  unfold sealB at hs
  rw [decide_eq_true_eq, spoil_length, hlen, Nat.add_sub_cancel] at hs
  have h0 := sealB_seal l
  unfold sealB at h0
  rw [decide_eq_true_eq, hlen, Nat.add_sub_cancel] at h0
  have he := seals_alike l.length a _ _ ha hlen (by rw [spoil_length, hlen]) h0.2 hs.2 (fun j hj => spoil_out _ _ _ _ _ hj)
  obtain ⟨k, hk, hx⟩ := h
  have h1 := spoil_in (l ++ leB 4 (sumN l)) a x 4 k hk
  rw [he, List.getElem?_eq_getElem (by rw [hlen]; omega)] at h1
  simp only [Option.map_some, Option.some.injEq] at h1
  exact hx (xor_same _ _ h1.symm)
def Opened (l : List UInt8) (w : World) (x : Ending) (w' : World) : Prop :=
  ∃ A n c, x = .returned (.tuple #[.slice A n c, .bool (sealB l)]) ∧ Hid ((openB l).length = n) ∧ n ≤ c ∧ c ≤ maxLen ∧ Bs w' w'.heap.size A (openB l) ∧ Below w.heap.size w w'

theorem cnumber_4 {w : World} {g : Nat} {l : List UInt8} (hl : l.length = 4) (h : Cur w g l 0 0) :
    Calls Try.prog 31 #[.pointer (some ⟨g, 0, none⟩), .int .i64 4] w fun x w' =>
      x = .returned (.int .u64 ((leV l : Nat) : Int)) ∧ w.grownBy w' (some g) ∧ w.heap.size = w'.heap.size := by
  refine (cnumber_any 4 h).mono ?_
  rintro x w' ⟨rfl, h1, h2, h3⟩
  have e : (takeF l 0 0 (sizeI 4)).1 = l := by
    unfold takeF
    rw [show sizeI 4 = 4 from rfl, if_neg (by omega), if_neg (by omega)]
    simp only [List.drop_zero]
    exact List.take_of_length_le (by rw [hl]; decide)
  rw [e]
  exact ⟨rfl, h2, h3⟩

/-- The same, and where its bytes lie: in new memory. -/
def OpenedN (l : List UInt8) (w : World) (x : Ending) (w' : World) : Prop :=
  ∃ A n c, x = .returned (.tuple #[.slice A n c, .bool (sealB l)]) ∧ Hid ((openB l).length = n) ∧ n ≤ c ∧ c ≤ maxLen ∧ Bs w' w'.heap.size A (openB l) ∧ Below w.heap.size w w' ∧ ∀ b o s, A = some ⟨b, o, s⟩ → w.heap.size ≤ b

set_option maxHeartbeats 1000000 in
theorem copen_new (A : Option Addr) (n c : Nat) (l : List UInt8) (w : World) (hn : Hid (l.length = n)) (hnc : n ≤ c) (hc : c ≤ 9223372036854775807) (h : Bs w w.heap.size A l) (hl : n ≤ 1099511627776) :
    Calls Try.prog 24 #[.slice A n c] w (OpenedN l w) := by
  by_cases h4 : n < 4
  · have hs : sealB l = false := by have := hn.out; simp [sealB]; omega
    have ho : openB l = [] := by simp [openB, hs]
    have HS := Lib.hid hs
    have HO := Lib.hid ho
    have h4' : ((n : Int) - 4 < 0) := by omega
    clear hs ho
    go_enter Try.func24, Try.ntmps24
    go_wp2_with fail
    go_quiet (fail)
    go_wp2
    exact bodyPost_ret (v := .tuple #[.slice none 0 0, .bool false]) (by simp [results, Try.results24, go_sem]) rfl ⟨none, 0, 0, by rw [HS.out], Lib.hid (by rw [HO.out]; rfl), by omega, by unfold maxLen; omega, by rw [HO.out]; exact Bs.nil _ _ _, below_drewN (Below.refl _ _) nq, fun _ _ _ e => by cases e⟩
  · obtain ⟨k, rfl⟩ : ∃ k, n = k + 4 := ⟨n - 4, by omega⟩
    have hk : ((k + 4 : Nat) : Int) - 4 = (k : Int) := by omega
    have h4' : decide ((k : Int) < 0) = false := by rw [decide_eq_false_iff_not]; omega
    have hlen := hn.out
    obtain ⟨b, o, rfl, -, -⟩ := h.at_ (by omega)
    have hdr : Bs w.drew w.heap.size (some ⟨b, o + k, none⟩) (l.drop k) := h.drop k rfl
    have htk : Bs w.drew w.heap.size (some ⟨b, o, none⟩) (l.take k) := h.take k
    have hBd : w.heap.size ≤ w.drew.heap.size := Nat.le_refl _
    have HD : Hid ((l.drop k).length = 4) := by show _ = _; simp; omega
    have HT : Hid ((l.take k).length = k) := by show _ = _; simp; omega
    have hs1 := fun w => (slice_from u8E w b o (k + 4) c k (by omega) (by omega)).trans (by rw [Nat.add_sub_cancel_left])
    have hs2 := fun w => slice_to u8E w (some ⟨b, o, none⟩) (k + 4) c k (by omega)
    have h4le : 4 ≤ 140737488355328 := by omega
    have hkle : k ≤ 1099511627776 := by omega
    clear h4 hlen
    go_enter Try.func24, Try.ntmps24
    go_wp2_with fail
    go_region_held3 (fun W => Below w.heap.size w W) (first | assumption | exact below_drewN (Below.refl _ _) 1 | exact Below.refl _ _) (first
      | (go_at_call 30; (with_reducible refine (newCursor_any _ _ _ (l.drop k) w.heap.size w.drew HD hdr hBd h4le).mono ?_);  rintro e w1 ⟨g, rfl, hg, hcur, hb⟩; have hg := Nat.le_trans hBd hg; have hb : Below w.heap.size w w1 := (below_drewN (Below.refl w.heap.size w) 1).trans hb)
      | (go_at_call 31; (with_reducible refine (cnumber_4 HD.out hcur).mono ?_);  rintro e w2 ⟨rfl, hg2, hs2⟩; have hb2 : Below w.heap.size w w2 := hb.grown hg2 hb.size (fun q hq => by simp at hq; omega))
      | (go_at_call 28; (with_reducible refine (csum_any _ _ _ (l.take k) w.heap.size _ HT ?_ hkle).mono ?_);  (first | exact htk | exact Bs.below (w := w) htk hb (Nat.le_refl _) | exact Bs.below (w := w) htk hb2 (Nat.le_refl _)); rintro e w' ⟨rfl, rfl⟩))
    all_goals
      clear hs1 hs2 hk h4'
      have hwr : IntKind.u64.wrap ((sumN (l.take k) : Nat) : Int) = ((sumN (l.take k) : Nat) : Int) := by
        have := sumN_lt (l.take k)
        rw [IntKind.wrap_u64]
        omega
      rw [hwr]
      clear hwr
      by_cases hv : leV (l.drop k) = sumN (l.take k)
      · have hs : sealB l = true := by
          unfold sealB
          rw [hn.out, Nat.add_sub_cancel, decide_eq_true_eq]
          exact ⟨by omega, hv⟩
        have ho : openB l = l.take k := by
          unfold openB
          rw [hs, if_pos rfl, hn.out, Nat.add_sub_cancel]
        have HS := Lib.hid hs
        have HO := Lib.hid ho
        rw [hv]
        clear hs ho hv
        have hs3 := fun w => slice_to u8E w (some ⟨b, o, none⟩) (k + 4) c k (by omega)
        go_wp2_with fail
        refine (clone_any _ k c (l.take k) w.heap.size _ HT (Bs.below (w := w) htk hb2 (Nat.le_refl _)) hb2.size (by omega)).mono ?_
        rintro e w3 ⟨A3, n3, c3, rfl, hn3, hown3, hnc3, hc3, hbs3, hb3⟩
        have HNW : Hid (∀ b o s, A3 = some ⟨b, o, s⟩ → w.heap.size ≤ b) := fun b o s e => Nat.le_trans hb2.size (hown3.lt b (by rw [e]; rfl)).1
        clear hown3
        go_wp2_with fail
        have hb4 := hb2.trans (hb3.mono hb2.size)
        exact bodyPost_ret (v := .tuple #[.slice A3 n3 c3, .bool true]) (by simp [results, Try.results24, go_sem]) rfl ⟨A3, n3, c3, by rw [HS.out], by rw [HO.out]; exact hn3, hnc3, hc3, by rw [HO.out]; exact hbs3, hb4, HNW.out⟩
      · have hs : sealB l = false := by
          unfold sealB
          rw [hn.out, Nat.add_sub_cancel, decide_eq_false_iff_not]
          exact fun h => hv h.2
        have ho : openB l = [] := by
          unfold openB
          rw [hs]
          rfl
        have HS := Lib.hid hs
        have HO := Lib.hid ho
        have hv' : ((leV (l.drop k) : Int) != (sumN (l.take k) : Int)) = true := by simpa using fun e : ((leV (l.drop k) : Int) = (sumN (l.take k) : Int)) => hv (by omega)
        clear hs ho hv
        go_wp2_with fail
        exact bodyPost_ret (v := .tuple #[.slice none 0 0, .bool false]) (by simp [results, Try.results24, go_sem]) rfl ⟨none, 0, 0, by rw [HS.out], Lib.hid (by rw [HO.out]; rfl), by omega, by unfold maxLen; omega, by rw [HO.out]; exact Bs.nil _ _ _, hb2, fun _ _ _ e => by cases e⟩
theorem copen_any (A : Option Addr) (n c : Nat) (l : List UInt8) (w : World) (hn : Hid (l.length = n)) (hnc : n ≤ c) (hc : c ≤ 9223372036854775807) (h : Bs w w.heap.size A l) (hl : n ≤ 1099511627776) :
    Calls Try.prog 24 #[.slice A n c] w (Opened l w) :=
  (copen_new A n c l w hn hnc hc h hl).mono fun _ _ ⟨A', n', c', h1, h2, h3, h4, h5, h6, _⟩ => ⟨A', n', c', h1, h2, h3, h4, h5, h6⟩
end Go.Proofs.Ytoielghmgjdknaa
