/-
  A disk's Size: all files' bytes.
-/
import Derived.Test.YtillnfjedjahnaaPDsk2
namespace Go.Proofs.Ytillnfjedjahnaa
open Go.RowKit
set_option linter.unusedVariables false

/-- What comes out of the map, gone through. -/
theorem pil_of {L : List Pil} {x : List UInt8} {o : Option Nat} {y : DataW Value × List MemPlace} (hv : gP (.pointer (o.map fun p => ⟨p, 0, none⟩)) = some y) (hat : ∀ zd, (DP L).atKey (.string x) zd = y.1) : ∃ g ∈ L, o = some g.p ∧ bl g.name = x := by
  have h1 := hat .nil
  rw [atKey_DP, gP_held _ _ hv] at h1
  cases hf : findPil x L with
  | none => rw [hf] at h1; cases h1
  | some g =>
    rw [hf] at h1
    obtain ⟨h2, h3⟩ := findPil_some hf
    refine ⟨g, h2, ?_, h3⟩
    have h4 : g.val = .pointer (o.map fun p => ⟨p, 0, none⟩) := by simpa using h1
    unfold Pil.val at h4
    cases o with
    | none => simp at h4
    | some p => simp at h4; rw [h4]
theorem sum_sizeP {L : List Pil} (h : ∀ x ∈ L, x.f.data.length = x.f.n) : (L.map fun x => x.f.n).sum = sizeF (L.map Pil.pf) := by
  induction L with
  | nil => rfl
  | cons f r ih =>
    rw [List.map_cons, List.map_cons, sizeF_cons, List.sum_cons, ih (fun x hx => h x (List.mem_cons_of_mem _ hx))]
    have := h f (List.mem_cons_self ..)
    show _ = f.f.data.length + _
    omega
theorem sumP_le {left : Lit → Bool} : ∀ L : List Pil, sumDP left L ≤ (L.map fun x => x.f.n).sum
  | [] => Nat.le_refl _
  | f :: r => by
    have := sumP_le (left := left) r
    rw [sumD_consP, List.map_cons, List.sum_cons]
    split <;> omega

set_option maxHeartbeats 1600000 in
theorem pdskSize_any {w : World} {O : Nat → Prop} {d : Nat} {st : DSt} {mb : Nat} {L : List Pil} (h : PDsk w O d st mb L) (hz : sizeF st.files ≤ 1099511627776) :
    Calls Try.prog 16 #[dptr d] w fun e w' => e = .returned (.int .i64 (sizeF st.files : Int)) ∧ Below w.heap.size w w' := by
  have hm := h.map_
  have hsum : (L.map fun x => x.f.n).sum = sizeF st.files := by rw [← h.pf]; exact sum_sizeP fun x hx => (h.files x hx).len
  have c1 : w.cell? ⟨d, 1, none⟩ = some (.map (some mb)) := h.blk.cellAt 1 (show 1 < 7 by decide)
  have HRIS := Lib.hid hm.rising
  have HSUM := Lib.hid hsum
  have HF := Lib.hid h.files
  have hmlt := hm.lt
  have HZ := Lib.hid hz
  clear h hsum hz
  go_enter Try.func16, Try.ntmps16
  go_wp2_with (first | (at_range; refine wpList_range_own _ rfl _ 49 rfl 9 54 strKeyedP Try.underlying49 gP mb L.length (DP L) rfl hm ?_; intro w0 hrg0 hg0 hs0))
  have hb0 : Hid (Below w.heap.size w w0) := ⟨hg0.os, hg0.tape, hg0.output, hg0.size, fun k hk => hg0.block k hk (by simp)⟩
  clear hg0 hs0
  go_frame
  go_loopw [3, 5] (fun v _ wr => ∃ left cnt, v = .int .i64 (sumDP left L : Int) ∧ wr.ranges Try.prog 9 gP mb w.heap.size L.length (DP L) left cnt ∧ Hid (Below w.heap.size w wr)) (fun _ _ wr => wr.rangeLeft mb w.heap.size)
  case atStart =>
    refine ⟨_, _, ?_, hrg0, hb0⟩
    rw [sumD_noneP]
    · rfl
    · intro f hf
      show Maps.has (DP L) (.string (bl f.name)) = true
      rw [has_DP]
      unfold findPil
      rw [List.find?_isSome]
      exact ⟨f, hf, by simp⟩
  case round =>
    obtain ⟨left, cnt, rfl, hrg, hb⟩ := hrel
    have HM := Lib.hid hrg.left_eq
    go_wp2_with (first | (at_next; refine wpList_next_ranges _ rfl _ rfl 9 strKeyedP gP encStr (fun o : Option Nat => Value.pointer (o.map fun p => ⟨p, 0, none⟩)) (fun key kl hk => by obtain ⟨x, hx, _⟩ := Maps.keyOf_str Try.underlying9 hk; exact ⟨x, hx⟩) gP_inv mb w.heap.size L.length _ _ _ rfl hrg ?_ ?_))
    · intro hc0 hl0
      have HV : Hid (sumDP left L = sizeF st.files) := by show _ = _; rw [sumD_allP hl0, HSUM.out]
      clear hc0 hl0 hrg
      go_wp2_with fail
      go_ret
      exact ⟨by rw [← HV.out]; rfl, hb.out⟩
    · intro x o kl yd yp w2 cnt2 hkey hlk hv hat hrg2 hlt hg2 hs2 hen
      obtain ⟨x', ex, rfl, _⟩ := Maps.keyOf_str Try.underlying9 hkey
      obtain rfl : x = x' := encStr_inj ex
      obtain ⟨g, hg, rfl, rfl⟩ := pil_of hv hat
      have hst := sumD_stepP HRIS.out hg hlk
      have hle := sumP_le (left := fun z => left z && !z.sameKey (.string (bl g.name))) L
      rw [HSUM.out] at hle
      have hz := HZ.out
      obtain ⟨s2, hs2'⟩ : ∃ s2, sumDP (fun z => left z && !z.sameKey (.string (bl g.name))) L = s2 := ⟨_, rfl⟩
      rw [hs2'] at hst hle
      have hw : IntKind.i64.wrap ((sumDP left L : Int) + (g.f.n : Int)) = (s2 : Int) := by rw [IntKind.wrap_i64]; omega
      have hbb : Below w.heap.size w w2 := hb.out.trans ⟨hg2.os, hg2.tape, hg2.output, hg2.size, fun k hk => hg2.block k (Nat.lt_of_lt_of_le hk hb.out.size) (by simp; omega)⟩
      have hF := HF.out g hg
      have hcell : w2.cell? ⟨g.p, 0, none⟩ = some (.slice g.f.A g.f.n g.f.c) := (World.cell?_of_block (hbb.block g.p (hF.lt (.inl rfl)))).trans (hF.cell.cellAt 0 (show 0 < 2 by decide))
      have HRG := Lib.hid hrg2
      have HB2 := Lib.hid hbb
      have HS2 := Lib.hid hs2'
      clear hst hle hz hs2' hbb hrg2 hg2 hs2 hkey hv hat hrg hF hm
      simp only [Option.map_some] at hen ⊢
      go_wp2_with fail
      go_roundw
      case rel => exact ⟨_, cnt2, by rw [HS2.out], HRG.out, HB2.out⟩
      case measure =>
        rw [HRG.out.left_eq, HM.out]
        exact hlt
end Go.Proofs.Ytillnfjedjahnaa
