/-
  Plain: how many bytes steps make of a disk's files.
-/
import Derived.Test.YtjdjidlopmanbaaDiskN
namespace Go.Proofs.Ytjdjidlopmanbaa
open Go.RowKit
set_option linter.unusedVariables false

theorem sizeF_cons (f : PF) (l : List PF) : sizeF (f :: l) = f.data.length + sizeF l := by unfold sizeF; simp
theorem sizeF_perm {a b : List PF} (h : a.Perm b) : sizeF a = sizeF b := by
  induction h with
  | nil => rfl
  | cons x _ ih => rw [sizeF_cons, sizeF_cons, ih]
  | swap x y l => rw [sizeF_cons, sizeF_cons, sizeF_cons, sizeF_cons]; omega
  | trans _ _ h1 h2 => rw [h1, h2]
theorem sizeF_ins (f : PF) (l : List PF) : sizeF (insF f l) = f.data.length + sizeF l := by rw [sizeF_perm (insF_perm f l), sizeF_cons]
theorem sizeF_drop (nm : List UInt8) : ∀ l : List PF, sizeF (dropF nm l) ≤ sizeF l
  | [] => Nat.le_refl _
  | g :: r => by
    have ih := sizeF_drop nm r
    unfold dropF at ih ⊢
    rw [List.filter_cons]
    split
    · rw [sizeF_cons, sizeF_cons]; omega
    · rw [sizeF_cons]; omega
theorem sizeF_drop_mem {nm : List UInt8} {f : PF} (hn : f.name = nm) : ∀ {l : List PF}, f ∈ l → sizeF (dropF nm l) + f.data.length ≤ sizeF l
  | [], h => by cases h
  | g :: r, h => by
    unfold dropF
    rw [List.filter_cons]
    rcases List.mem_cons.1 h with rfl | h'
    · rw [if_neg (by simp [hn]), sizeF_cons]
      have := sizeF_drop nm r
      unfold dropF at this
      omega
    · have ih := sizeF_drop_mem hn h'
      unfold dropF at ih
      split
      · rw [sizeF_cons, sizeF_cons]; omega
      · rw [sizeF_cons]; omega
theorem sizeF_put (f : PF) (l : List PF) : sizeF (putF f l) ≤ sizeF l + f.data.length := by
  unfold putF
  rw [sizeF_ins]
  have := sizeF_drop f.name l
  omega
theorem sizeF_cut (keep : Int) : ∀ l : List PF, sizeF (l.map (cutF keep)) ≤ sizeF l
  | [] => Nat.le_refl _
  | g :: r => by
    have ih := sizeF_cut keep r
    rw [List.map_cons, sizeF_cons, sizeF_cons]
    have : (cutF keep g).data.length ≤ g.data.length := by
      show (g.data.take _).length ≤ _
      rw [List.length_take]
      omega
    omega
theorem size_begin (st : DSt) : sizeF (beginS st).1.files ≤ sizeF st.files := by
  unfold beginS
  split
  · exact Nat.le_refl _
  · split
    · exact sizeF_cut _ _
    · exact Nat.le_refl _
theorem size_append (nm b : List UInt8) (st : DSt) : sizeF (appendS nm b st).1.files ≤ sizeF st.files + b.length := by
  unfold appendS
  split
  · exact Nat.le_add_right _ _
  split
  · exact Nat.le_add_right _ _
  split
  · exact Nat.le_add_right _ _
  · cases hf : findF nm st.files with
    | none => exact sizeF_put ⟨nm, b, 0⟩ st.files
    | some f =>
      obtain ⟨h1, h2⟩ := findF_some hf
      have := sizeF_drop_mem h2 h1
      show sizeF (insF ⟨nm, f.data ++ b, f.sure⟩ (dropF nm st.files)) ≤ _
      rw [sizeF_ins]
      simp only [List.length_append]
      omega
theorem size_sync (nm : List UInt8) (st : DSt) : sizeF (syncS nm st).1.files ≤ sizeF st.files := by
  unfold syncS
  split
  · exact Nat.le_refl _
  · split
    · exact Nat.le_refl _
    · next f hf =>
      obtain ⟨h1, h2⟩ := findF_some hf
      have := sizeF_drop_mem h2 h1
      show sizeF (insF ⟨nm, f.data, f.data.length⟩ (dropF nm st.files)) ≤ _
      rw [sizeF_ins]
      simp only
      omega
theorem size_rename (nm to : List UInt8) (st : DSt) : sizeF (renameS nm to st).1.files ≤ sizeF st.files := by
  unfold renameS
  split
  · exact Nat.le_refl _
  · split
    · exact Nat.le_refl _
    · next f hf =>
      obtain ⟨h1, h2⟩ := findF_some hf
      have := sizeF_drop_mem h2 h1
      have h3 := sizeF_put ⟨to, f.data, f.sure⟩ (dropF nm st.files)
      simp only at h3 ⊢
      omega
theorem size_remove (nm : List UInt8) (st : DSt) : sizeF (removeS nm st).1.files ≤ sizeF st.files := by
  unfold removeS
  split
  · exact Nat.le_refl _
  · split
    · exact Nat.le_refl _
    · exact sizeF_drop _ _
theorem size_call (go : DSt → DSt × Int) (k : Nat) (hg : ∀ s, sizeF (go s).1.files ≤ sizeF s.files + k) (st : DSt) : sizeF (callS go st).1.files ≤ sizeF st.files + k := by
  have := size_begin st
  unfold callS
  split
  · have := hg (beginS st).1
    omega
  · simp only; omega
theorem size_step (st : DSt) (s : Stp) : sizeF (doS st s).1.files ≤ sizeF st.files + s.data.length := by
  unfold doS
  split
  · exact size_call _ _ (size_append _ _) st
  split
  · exact size_call _ _ (fun x => Nat.le_trans (size_sync _ x) (Nat.le_add_right _ _)) st
  split
  · exact size_call _ _ (fun x => Nat.le_trans (size_rename _ _ x) (Nat.le_add_right _ _)) st
  split
  · exact size_call _ _ (fun x => Nat.le_trans (size_remove _ x) (Nat.le_add_right _ _)) st
  split
  · exact Nat.le_add_right _ _
  split
  · exact Nat.le_trans (sizeF_cut _ _) (Nat.le_add_right _ _)
  split
  · exact Nat.le_add_right _ _
  · exact Nat.le_add_right _ _
end Go.Proofs.Ytjdjidlopmanbaa
