/-
  Plain: work on a disk, armed or not.
-/
import Derived.Test.YtjdjidlopmanbaaOp10
import Derived.Test.YtjdjidlopmanbaaRef9b
namespace Go.Proofs.Ytjdjidlopmanbaa
open Go.RowKit
set_option linter.unusedVariables false

/-- What a call makes of a disk. -/
def opS (st : DSt) (o : Opn) : DSt × Int :=
  if o.kind = 1 then callS (appendS (bl o.name) o.data) st
  else if o.kind = 2 then callS (syncS (bl o.name)) st
  else if o.kind = 3 then callS (renameS (bl o.name) (bl o.to)) st
  else if o.kind = 4 then callS (removeS (bl o.name)) st
  else (st, 0)
def runS (st : DSt) (l : List Opn) : DSt := l.foldl (fun s o => (opS s o).1) st
theorem runS_snoc (st : DSt) (l : List Opn) (o : Opn) : runS st (l ++ [o]) = (opS (runS st l) o).1 := by unfold runS; rw [List.foldl_append]; rfl
def goO (o : Opn) : DSt → DSt × Int :=
  if o.kind = 1 then appendS (bl o.name) o.data else if o.kind = 2 then syncS (bl o.name) else if o.kind = 3 then renameS (bl o.name) (bl o.to) else removeS (bl o.name)
theorem opS_go {o : Opn} (h : isCallO o = true) (st : DSt) : opS st o = callS (goO o) st := by
  unfold isCallO at h
  rw [Bool.and_eq_true, decide_eq_true_iff, decide_eq_true_iff] at h
  unfold opS goO
  by_cases h1 : o.kind = 1
  · rw [if_pos h1, if_pos h1]
  by_cases h2 : o.kind = 2
  · rw [if_neg h1, if_neg h1, if_pos h2, if_pos h2]
  by_cases h3 : o.kind = 3
  · rw [if_neg h1, if_neg h1, if_neg h2, if_neg h2, if_pos h3, if_pos h3]
  · rw [if_neg h1, if_neg h1, if_neg h2, if_neg h2, if_neg h3, if_neg h3, if_pos (by omega)]
/-- What a call's second half may do: files alone; by files and capacity alone; and it is no crash. -/
structure Half (go : DSt → DSt × Int) : Prop where
  only : ∀ s : DSt, ∃ fs, go s = ({ s with files := fs }, (go s).2)
  same : ∀ s t : DSt, s.files = t.files → s.cap = t.cap → (go s).1.files = (go t).1.files ∧ (go s).2 = (go t).2
  no19 : ∀ s : DSt, (go s).2 ≠ 19
theorem half_append (nm b : List UInt8) : Half (appendS nm b) where
  only := fun s => by
    unfold appendS
    split
    · exact ⟨s.files, rfl⟩
    split
    · exact ⟨s.files, rfl⟩
    split
    · exact ⟨s.files, rfl⟩
    · exact ⟨_, rfl⟩
  same := fun s t hf hc => by
    unfold appendS
    rw [hf, hc]
    split
    · exact ⟨hf, rfl⟩
    split
    · exact ⟨hf, rfl⟩
    split
    · exact ⟨hf, rfl⟩
    · exact ⟨rfl, rfl⟩
  no19 := fun s => by
    unfold appendS
    split
    · show (7 : Int) ≠ 19; decide
    split
    · show (15 : Int) ≠ 19; decide
    split
    · show (10 : Int) ≠ 19; decide
    · show (0 : Int) ≠ 19; decide
theorem half_sync (nm : List UInt8) : Half (syncS nm) where
  only := fun s => by
    unfold syncS
    split
    · exact ⟨s.files, rfl⟩
    split
    · exact ⟨s.files, rfl⟩
    · exact ⟨_, rfl⟩
  same := fun s t hf hc => by
    unfold syncS
    rw [hf]
    split
    · exact ⟨hf, rfl⟩
    split
    · exact ⟨hf, rfl⟩
    · exact ⟨rfl, rfl⟩
  no19 := fun s => by
    unfold syncS
    split
    · show (7 : Int) ≠ 19; decide
    split
    · show (8 : Int) ≠ 19; decide
    · show (0 : Int) ≠ 19; decide
theorem half_rename (nm to : List UInt8) : Half (renameS nm to) where
  only := fun s => by
    unfold renameS
    split
    · exact ⟨s.files, rfl⟩
    split
    · exact ⟨s.files, rfl⟩
    · exact ⟨_, rfl⟩
  same := fun s t hf hc => by
    unfold renameS
    rw [hf]
    split
    · exact ⟨hf, rfl⟩
    split
    · exact ⟨hf, rfl⟩
    · exact ⟨rfl, rfl⟩
  no19 := fun s => by
    unfold renameS
    split
    · show (7 : Int) ≠ 19; decide
    split
    · show (8 : Int) ≠ 19; decide
    · show (0 : Int) ≠ 19; decide
theorem half_remove (nm : List UInt8) : Half (removeS nm) where
  only := fun s => by
    unfold removeS
    split
    · exact ⟨s.files, rfl⟩
    split
    · exact ⟨s.files, rfl⟩
    · exact ⟨_, rfl⟩
  same := fun s t hf hc => by
    unfold removeS
    rw [hf]
    split
    · exact ⟨hf, rfl⟩
    split
    · exact ⟨hf, rfl⟩
    · exact ⟨rfl, rfl⟩
  no19 := fun s => by
    unfold removeS
    split
    · show (7 : Int) ≠ 19; decide
    split
    · show (8 : Int) ≠ 19; decide
    · show (0 : Int) ≠ 19; decide
theorem half_go (o : Opn) : Half (goO o) := by
  unfold goO
  split
  · exact half_append _ _
  split
  · exact half_sync _
  split
  · exact half_rename _ _
  · exact half_remove _
theorem opS_none {o : Opn} (h : isCallO o = false) (st : DSt) : opS st o = (st, 0) := by
  unfold isCallO at h
  rw [Bool.and_eq_false_iff, decide_eq_false_iff_not, decide_eq_false_iff_not] at h
  unfold opS
  rw [if_neg (by omega), if_neg (by omega), if_neg (by omega), if_neg (by omega)]
theorem runS_calls : ∀ (l : List Opn) (st : DSt), runS st l = runS st (callsO l)
  | [], _ => rfl
  | o :: r, st => by
    unfold callsO
    rw [List.filter_cons]
    cases h : isCallO o with
    | true =>
      rw [if_pos rfl]
      exact runS_calls r (opS st o).1
    | false =>
      rw [if_neg (by decide)]
      have : runS st (o :: r) = runS st r := by
        show runS (opS st o).1 r = _
        rw [opS_none h]
      rw [this]
      exact runS_calls r st

/-- Two disks with the same files and capacity, up both, one armed, the other not. -/
structure Twin (s t : DSt) : Prop where
  files : s.files = t.files
  cap : s.cap = t.cap
  sup : s.down = false
  tup : t.down = false
  sarm : s.armed = true
  tarm : t.armed = false
theorem Twin.step {s t : DSt} (h : Twin s t) {o : Opn} (ho : isCallO o = true) (hl : s.left ≠ 0) :
    Twin (opS s o).1 (opS t o).1 ∧ (opS s o).1.left = s.left - 1 ∧ (opS s o).1.keep = s.keep ∧ (opS s o).2 = (opS t o).2 ∧ (opS s o).2 ≠ 19 := by
  have hg := half_go o
  have e1 : opS s o = goO o { s with left := s.left - 1, calls := (s.calls + 1) % 18446744073709551616 } := by
    rw [opS_go ho]
    unfold callS
    have : beginS s = ({ s with left := s.left - 1, calls := (s.calls + 1) % 18446744073709551616 }, true) := by
      unfold beginS
      rw [h.sup, h.sarm]
      simp [hl]
    rw [this]
    rfl
  have e2 : opS t o = goO o { t with calls := (t.calls + 1) % 18446744073709551616 } := by
    rw [opS_go ho]
    unfold callS
    have : beginS t = ({ t with calls := (t.calls + 1) % 18446744073709551616 }, true) := by
      unfold beginS
      rw [h.tup, h.tarm]
      simp
    rw [this]
    rfl
  obtain ⟨f1, h1⟩ := hg.only { s with left := s.left - 1, calls := (s.calls + 1) % 18446744073709551616 }
  obtain ⟨f2, h2⟩ := hg.only { t with calls := (t.calls + 1) % 18446744073709551616 }
  have h3 := hg.same { s with left := s.left - 1, calls := (s.calls + 1) % 18446744073709551616 } { t with calls := (t.calls + 1) % 18446744073709551616 } h.files h.cap
  have h4 := hg.no19 { s with left := s.left - 1, calls := (s.calls + 1) % 18446744073709551616 }
  rw [e1, e2]
  refine ⟨⟨h3.1, ?_, ?_, ?_, ?_, ?_⟩, ?_, ?_, h3.2, h4⟩
  · rw [h1, h2]; exact h.cap
  · rw [h1]; exact h.sup
  · rw [h2]; exact h.tup
  · rw [h1]; exact h.sarm
  · rw [h2]; exact h.tarm
  · rw [h1]
  · rw [h1]
/-- A disk that is down stays as it is. -/
theorem opS_down {s : DSt} (h : s.down = true) {o : Opn} (ho : isCallO o = true) : opS s o = (s, 19) := by
  rw [opS_go ho]
  unfold callS beginS
  rw [h]
  simp
theorem opS_crash {s : DSt} (h : s.down = false) (ha : s.armed = true) (hl : s.left = 0) {o : Opn} (ho : isCallO o = true) : opS s o = (crashS s.keep s, 19) := by
  rw [opS_go ho]
  unfold callS beginS
  rw [h, ha, hl]
  simp
theorem runS_down {s : DSt} (h : s.down = true) : ∀ (cs : List Opn), (∀ o ∈ cs, isCallO o = true) → runS s cs = s
  | [], _ => rfl
  | o :: r, hc => by
    show runS (opS s o).1 r = s
    rw [opS_down h (hc o (List.mem_cons_self ..))]
    exact runS_down h r fun x hx => hc x (List.mem_cons_of_mem _ hx)
theorem armed_run : ∀ (cs : List Opn) (s t : DSt), (∀ o ∈ cs, isCallO o = true) → Twin s t →
    (cs.length ≤ s.left → (runS s cs).files = (runS t cs).files ∧ (runS s cs).down = false) ∧
    (s.left < cs.length → (runS s cs).files = (runS t (cs.take s.left)).files.map (cutF s.keep) ∧ (runS s cs).down = true)
  | [], s, t, _, h => ⟨fun _ => ⟨h.files, h.sup⟩, fun hl => absurd hl (Nat.not_lt_zero _)⟩
  | o :: r, s, t, hc, h => by
    have ho := hc o (List.mem_cons_self ..)
    have hr : ∀ x ∈ r, isCallO x = true := fun x hx => hc x (List.mem_cons_of_mem _ hx)
    by_cases hl : s.left = 0
    · refine ⟨fun hle => by rw [hl] at hle; simp at hle, fun _ => ?_⟩
      have e : runS s (o :: r) = crashS s.keep s := by
        show runS (opS s o).1 r = _
        rw [opS_crash h.sup h.sarm hl ho]
        exact runS_down rfl r hr
      rw [e, hl]
      exact ⟨by show s.files.map _ = (runS t []).files.map _; rw [h.files]; rfl, rfl⟩
    · obtain ⟨h1, h2, h3, _, _⟩ := h.step ho hl
      obtain ⟨i1, i2⟩ := armed_run r (opS s o).1 (opS t o).1 hr h1
      rw [h2, h3] at i2
      rw [h2] at i1
      have e : s.left = (s.left - 1) + 1 := by omega
      refine ⟨fun hle => i1 (by rw [List.length_cons] at hle; omega), fun hlt => ?_⟩
      have := i2 (by rw [List.length_cons] at hlt; omega)
      rw [e, List.take_succ_cons]
      exact this
/-- The work up to the first call that does not answer 0, and that answer. -/
def mustS : DSt → List Opn → DSt × Int
  | st, [] => (st, 0)
  | st, o :: r => if (opS st o).2 = 0 then mustS (opS st o).1 r else opS st o

/-! ### what is kept -/
theorem size_op (st : DSt) (o : Opn) : sizeF (opS st o).1.files ≤ sizeF st.files + o.data.length := by
  unfold opS
  split
  · exact size_call _ _ (fun s => size_append _ _ s) st
  split
  · exact Nat.le_trans (size_call _ 0 (fun s => size_sync _ s) st) (by omega)
  split
  · exact Nat.le_trans (size_call _ 0 (fun s => size_rename _ _ s) st) (by omega)
  split
  · exact Nat.le_trans (size_call _ 0 (fun s => size_remove _ s) st) (by omega)
  · show sizeF st.files ≤ _
    omega
theorem size_run (st : DSt) (k : Nat) : ∀ (l : List Opn), (∀ o ∈ l, o.data.length ≤ k) → sizeF (runS st l).files ≤ sizeF st.files + k * l.length := by
  intro l
  induction l generalizing st with
  | nil => intro _; simp [runS]
  | cons o r ih =>
    intro h
    have h1 := ih (opS st o).1 fun x hx => h x (List.mem_cons_of_mem _ hx)
    have h2 := size_op st o
    have h3 := h o (List.mem_cons_self ..)
    have e : runS st (o :: r) = runS (opS st o).1 r := rfl
    rw [e, List.length_cons, Nat.mul_add]
    omega
end Go.Proofs.Ytjdjidlopmanbaa
