import Derived.Test.YtolpggmcjengcaaDoorCur2
import Derived.Laws.IdiomStrings
import Derived.Laws.BytesArg
namespace Go.Proofs.YtolpggmcjengcaaDoor
open Go.RowKit
set_option linter.unusedVariables false

/-- 'string(b)'. -/
theorem run_str {P : Program} {w : World} {B : Nat} {A : Option Addr} {l : List UInt8} {n c : Nat} (src dst e : TypeId) (hs : P.underlying src = some (.slice e)) (he : P.underlying e = some (.int .u8)) (hd : P.underlying dst = some .string)
    (hn : l.length = n) (h : Bs w B A l) : (convert src dst (.slice A n c)).run P w = .ok (.string ⟨l.toArray⟩) w := by
  subst hn
  rcases A with _ | a
  · have hl0 : l = [] := by
      rcases h with h | ⟨b, o, e, _⟩
      · simpa using h
      · simp at e
    subst hl0
    exact run_convert_bytes_nil w src e hs he _ _ dst hd
  · refine run_convert_bytes_back w src dst e a c l hs he hd fun j hj => ?_
    obtain ⟨b, o, e, -, hc⟩ := h.at_ (by omega)
    simp at e
    subst e
    have e : ({ block := b, off := o, spot := none } : Addr).add j = ⟨b, o + j, none⟩ := by unfold Addr.add; split <;> simp_all
    rw [e]
    exact hc j hj

/-- What Text tells, and leaves. -/
def textF (l : List UInt8) (k e : Nat) (q most : Int) : List UInt8 × Nat × Nat :=
  if (takeF l k e (sizeI q)).2.2 ≠ 0 then ([], (takeF l k e (sizeI q)).2)
  else if most < 0 ∨ most < (leV (takeF l k e (sizeI q)).1 : Int) then ([], (takeF l k e (sizeI q)).2.1, 2)
  else takeF l (takeF l k e (sizeI q)).2.1 0 (leV (takeF l k e (sizeI q)).1 : Int)

theorem leV_u64 (l : List UInt8) (k e : Nat) (q : Int) : leV (takeF l k e (sizeI q)).1 ≤ 18446744073709551615 := by
  have h1 := take_width l k e q
  have h2 := leV_lt (takeF l k e (sizeI q)).1
  have h3 : 256 ^ (takeF l k e (sizeI q)).1.length ≤ 256 ^ 8 := Nat.pow_le_pow_right (by omega) (by omega)
  have h4 : 256 ^ 8 = 18446744073709551616 := rfl
  omega

/-- The answer of Text. -/
def Told (w : World) (g : Nat) (l : List UInt8) (r : List UInt8 × Nat × Nat) (x : Ending) (w' : World) : Prop :=
  x = .returned (.string ⟨r.1.toArray⟩) ∧ Cur w' g l r.2.1 r.2.2 ∧ w.grownBy w' (some g) ∧ w.heap.size = w'.heap.size

set_option maxHeartbeats 1600000 in
/-- Cursor.Text. -/
theorem ctext_any {w : World} {g : Nat} {l : List UInt8} {k e : Nat} (q most : Int) (h : Cur w g l k e) (hm1 : -9223372036854775808 ≤ most) (hm2 : most ≤ 9223372036854775807) :
    Calls Tryd.prog 41 #[.pointer (some ⟨g, 0, none⟩), .int .i64 q, .int .i64 most] w (Told w g l (textF l k e q most)) := by
  have hb := leV_u64 l k e q
  obtain ⟨n, hn⟩ : ∃ n, leV (takeF l k e (sizeI q)).1 = n := ⟨_, rfl⟩
  obtain ⟨k1, hk1⟩ : ∃ k1, (takeF l k e (sizeI q)).2.1 = k1 := ⟨_, rfl⟩
  obtain ⟨e1, he1⟩ : ∃ e1, (takeF l k e (sizeI q)).2.2 = e1 := ⟨_, rfl⟩
  have hc := cnumber_any q h
  have HF : Hid (textF l k e q most = if e1 ≠ 0 then ([], k1, e1) else if most < 0 ∨ most < (n : Int) then ([], k1, 2) else takeF l k1 0 (n : Int)) := by
    show _ = _
    unfold textF
    rw [← he1, ← hk1, ← hn]
  rw [hn, hk1, he1] at hc
  rw [hn] at hb
  clear hn hk1 he1
  have HC := Lib.hid hc
  clear hc
  by_cases h0 : e1 = 0
  · subst h0
    have HF : Hid (textF l k e q most = if most < 0 ∨ most < (n : Int) then ([], k1, 2) else takeF l k1 0 (n : Int)) := by
      show _ = _; rw [HF.out]; simp
    by_cases hneg : most < 0
    · have HF : Hid (textF l k e q most = ([], k1, 2)) := by show _ = _; rw [HF.out, if_pos (.inl hneg)]
      go_enter Tryd.func41, Tryd.ntmps41
      go_wp2_with fail
      refine HC.out.mono ?_
      rintro x w1 ⟨rfl, hcur, hg, hsz⟩
      go_wp2_with fail
      refine (err_any hcur).mono ?_
      rintro x w' ⟨rfl, rfl⟩
      obtain ⟨A, m, c, -, hblk, -, -, -, -⟩ := id hcur
      have c2 : w1.cell? ⟨g, 2, none⟩ = some (.int .i64 0) := cell_blk hblk 2
      have z2 := frozen_blk hblk 2
      clear hblk
      go_wp2_with fail
      go_ret
      rw [HF.out]
      exact ⟨rfl, hcur.setE 2, grown_trans hg (grown_set _ _ _ _), by rw [hsz]; simp [World.setCell]⟩
    · by_cases hbig : most < (n : Int)
      · have HF : Hid (textF l k e q most = ([], k1, 2)) := by show _ = _; rw [HF.out, if_pos (.inr hbig)]
        go_enter Tryd.func41, Tryd.ntmps41
        go_wp2_with fail
        refine HC.out.mono ?_
        rintro x w1 ⟨rfl, hcur, hg, hsz⟩
        go_wp2_with fail
        refine (err_any hcur).mono ?_
        rintro x w' ⟨rfl, rfl⟩
        obtain ⟨A, m, c, -, hblk, -, -, -, -⟩ := id hcur
        have c2 : w1.cell? ⟨g, 2, none⟩ = some (.int .i64 0) := cell_blk hblk 2
        have z2 := frozen_blk hblk 2
        clear hblk
        go_wp2_with fail
        go_ret
        rw [HF.out]
        exact ⟨rfl, hcur.setE 2, grown_trans hg (grown_set _ _ _ _), by rw [hsz]; simp [World.setCell]⟩
      · have HF : Hid (textF l k e q most = takeF l k1 0 (n : Int)) := by show _ = _; rw [HF.out, if_neg (by omega)]
        go_enter Tryd.func41, Tryd.ntmps41
        go_wp2_with fail
        refine HC.out.mono ?_
        rintro x w1 ⟨rfl, hcur, hg, hsz⟩
        go_wp2_with fail
        refine (err_any hcur).mono ?_
        rintro x w' ⟨rfl, rfl⟩
        go_wp2_with fail
        refine (take_any (n : Int) hcur (by omega)).mono ?_
        rintro x w2 ⟨A2, m2, c2, rfl, hm2, hbs2, hcur2, hg2, hsz2⟩
        have hcv := run_str (P := Tryd.prog) (c := c2) 32 9 5 Tryd.underlying32 Tryd.underlying5 Tryd.underlying9 hm2.out hbs2
        go_wp2_with fail
        go_ret
        rw [HF.out]
        exact ⟨rfl, hcur2, grown_trans hg hg2, by rw [hsz, hsz2]⟩
  · have HF : Hid (textF l k e q most = ([], k1, e1)) := by show _ = _; rw [HF.out, if_pos h0]
    have hb1 : ((e1 : Int) != 0) = true := by simpa using h0
    clear h0
    go_enter Tryd.func41, Tryd.ntmps41
    go_wp2_with fail
    refine HC.out.mono ?_
    rintro x w1 ⟨rfl, hcur, hg, hsz⟩
    go_wp2_with fail
    refine (err_any hcur).mono ?_
    rintro x w' ⟨rfl, rfl⟩
    go_wp2_with fail
    go_ret
    rw [HF.out]
    exact ⟨rfl, hcur, hg, hsz⟩

/-! ### of nil -/
set_option maxHeartbeats 400000 in
theorem take_nil (n : Int) (w : World) : Calls Tryd.prog 51 #[.pointer none, .int .i64 n] w fun x w' => x = .returned (.slice none 0 0) ∧ w = w' := by
  go_enter Tryd.func51, Tryd.ntmps51
  go_wp2_with fail
  refine (err_nil _).mono ?_
  rintro x w' ⟨rfl, rfl⟩
  go_wp2_with fail
  go_ret
  exact ⟨rfl, rfl⟩
set_option maxHeartbeats 400000 in
theorem cnumber_nil (q : Int) (w : World) : Calls Tryd.prog 39 #[.pointer none, .int .i64 q] w fun x w' => x = .returned (.int .u64 0) ∧ ∃ m, w' = w.drewN m := by
  go_enter Tryd.func39, Tryd.ntmps39
  go_wp2_with fail
  refine (size_any _ _).mono ?_
  rintro x w' ⟨rfl, rfl⟩
  go_wp2_with fail
  refine (take_nil _ _).mono ?_
  rintro x w' ⟨rfl, rfl⟩
  go_wp2_with fail
  refine (value_0 _ _ _).mono ?_
  rintro x w' ⟨rfl, nq, rfl⟩
  go_wp2_with fail
  go_ret
  exact ⟨rfl, nq, rfl⟩
set_option maxHeartbeats 400000 in
theorem text_nil (q most : Int) (w : World) : Calls Tryd.prog 41 #[.pointer none, .int .i64 q, .int .i64 most] w fun x w' => x = .returned (.string ⟨#[]⟩) ∧ ∃ m, w' = w.drewN m := by
  go_enter Tryd.func41, Tryd.ntmps41
  go_wp2_with fail
  refine (cnumber_nil _ _).mono ?_
  rintro x w' ⟨rfl, nq, rfl⟩
  go_wp2_with fail
  refine (err_nil _).mono ?_
  rintro x w' ⟨rfl, rfl⟩
  go_wp2_with fail
  go_ret
  exact ⟨rfl, nq, rfl⟩
set_option maxHeartbeats 400000 in
theorem done_nil (w : World) : Calls Tryd.prog 43 #[.pointer none] w fun x w' => x = .returned (.int .i64 1) ∧ w = w' := by
  go_enter Tryd.func43, Tryd.ntmps43
  go_wp2_with fail
  refine (err_nil _).mono ?_
  rintro x w' ⟨rfl, rfl⟩
  go_wp2_with fail
  refine (err_nil _).mono ?_
  rintro x w' ⟨rfl, rfl⟩
  go_wp2_with fail
  go_ret
  exact ⟨rfl, rfl⟩
end Go.Proofs.YtolpggmcjengcaaDoor
