/-
  Plain: what a disk is, and what steps make of it.
-/
import Derived.Test.YtjdjidlopmanbaaHost
import Derived.Test.YtjdjidlopmanbaaStep9
namespace Go.Proofs.Ytjdjidlopmanbaa
open Go.RowKit
set_option linter.unusedVariables false

/-- A file. -/
structure PF where
  name : List UInt8
  data : List UInt8
  sure : Nat
/-- A file among others, by its name. -/
def insF (f : PF) : List PF → List PF
  | [] => [f]
  | g :: r => if (Lit.string f.name).before (.string g.name) then f :: g :: r else g :: insF f r
def dropF (nm : List UInt8) (fs : List PF) : List PF := fs.filter fun g => !(g.name == nm)
def putF (f : PF) (fs : List PF) : List PF := insF f (dropF f.name fs)
def findF (nm : List UInt8) (fs : List PF) : Option PF := fs.find? fun g => g.name == nm
def sizeF (fs : List PF) : Nat := (fs.map fun g => g.data.length).sum
def cutN (keep : Int) (f : PF) : Nat := f.sure + min keep.toNat (f.data.length - f.sure)
def cutF (keep : Int) (f : PF) : PF := ⟨f.name, f.data.take (cutN keep f), cutN keep f⟩
/-- A disk. -/
structure DSt where
  files : List PF
  cap : Int
  calls : Nat
  armed : Bool
  left : Nat
  keep : Int
  down : Bool
def crashS (keep : Int) (st : DSt) : DSt := { st with files := st.files.map (cutF keep), armed := false, down := true }
def beginS (st : DSt) : DSt × Bool :=
  if st.down then (st, false) else if st.armed && st.left == 0 then (crashS st.keep st, false)
  else ({ st with left := if st.armed then st.left - 1 else st.left, calls := (st.calls + 1) % 18446744073709551616 }, true)
def appendS (nm b : List UInt8) (st : DSt) : DSt × Int :=
  if targetL nm = false then (st, 7)
  else if (findF nm st.files).isNone ∧ 1024 ≤ st.files.length then (st, 15)
  else if st.cap - (sizeF st.files : Int) < (b.length : Int) then (st, 10)
  else ({ st with files := putF ((findF nm st.files).elim ⟨nm, b, 0⟩ fun f => ⟨nm, f.data ++ b, f.sure⟩) st.files }, 0)
def syncS (nm : List UInt8) (st : DSt) : DSt × Int :=
  if targetL nm = false then (st, 7) else match findF nm st.files with
  | none => (st, 8)
  | some f => ({ st with files := putF ⟨nm, f.data, f.data.length⟩ st.files }, 0)
def renameS (nm to : List UInt8) (st : DSt) : DSt × Int :=
  if targetL nm = false ∨ targetL to = false then (st, 7) else match findF nm st.files with
  | none => (st, 8)
  | some f => ({ st with files := putF ⟨to, f.data, f.sure⟩ (dropF nm st.files) }, 0)
def removeS (nm : List UInt8) (st : DSt) : DSt × Int :=
  if targetL nm = false then (st, 7) else match findF nm st.files with
  | none => (st, 8)
  | some f => ({ st with files := dropF nm st.files }, 0)
def callS (go : DSt → DSt × Int) (st : DSt) : DSt × Int := if (beginS st).2 then go (beginS st).1 else ((beginS st).1, 19)
def doS (st : DSt) (s : Stp) : DSt × Int :=
  if s.kind = 1 then callS (appendS (bl s.name) s.data) st
  else if s.kind = 2 then callS (syncS (bl s.name)) st
  else if s.kind = 3 then callS (renameS (bl s.name) (bl s.to)) st
  else if s.kind = 4 then callS (removeS (bl s.name)) st
  else if s.kind = 5 then ({ st with armed := true, left := s.num.toNat, keep := s.m }, 0)
  else if s.kind = 6 then (crashS s.m st, 0)
  else if s.kind = 7 then ({ st with down := false }, 0)
  else (st, 0)

/-! ### lists of files -/
theorem mem_insF {f g : PF} : ∀ {l : List PF}, g ∈ insF f l ↔ g = f ∨ g ∈ l
  | [] => by simp [insF]
  | h :: r => by
    unfold insF
    split
    · simp
    · rw [List.mem_cons, List.mem_cons, mem_insF (l := r)]
      constructor
      · rintro (h | h | h)
        · exact .inr (.inl h)
        · exact .inl h
        · exact .inr (.inr h)
      · rintro (h | h | h)
        · exact .inr (.inl h)
        · exact .inl h
        · exact .inr (.inr h)
theorem insF_perm (f : PF) : ∀ l : List PF, (insF f l).Perm (f :: l)
  | [] => List.Perm.refl _
  | h :: r => by
    unfold insF
    split
    · exact List.Perm.refl _
    · exact ((insF_perm f r).cons h).trans (List.Perm.swap f h r)
theorem mem_dropF {nm : List UInt8} {g : PF} {l : List PF} : g ∈ dropF nm l ↔ g ∈ l ∧ g.name ≠ nm := by
  unfold dropF
  rw [List.mem_filter]
  simp
theorem mem_putF {f g : PF} {l : List PF} : g ∈ putF f l ↔ g = f ∨ g ∈ l ∧ g.name ≠ f.name := by
  unfold putF
  rw [mem_insF, mem_dropF]
/-- No two of one name. -/
def Apart (fs : List PF) : Prop := fs.Pairwise fun f g => f.name ≠ g.name
theorem Apart.drop {fs : List PF} (h : Apart fs) (nm : List UInt8) : Apart (dropF nm fs) := List.Pairwise.filter _ h
theorem Apart.put {fs : List PF} (h : Apart fs) (f : PF) : Apart (putF f fs) := by
  unfold putF Apart
  rw [(insF_perm f (dropF f.name fs)).pairwise_iff (fun {a b} h => h.symm)]
  rw [List.pairwise_cons]
  exact ⟨fun g hg => (mem_dropF.1 hg).2.symm, h.drop _⟩
theorem Apart.map {fs : List PF} (h : Apart fs) (F : PF → PF) (hF : ∀ f, (F f).name = f.name) : Apart (fs.map F) := by
  unfold Apart
  rw [List.pairwise_map]
  exact h.imp fun {a b} hab => by rw [hF, hF]; exact hab
theorem Apart.eq {fs : List PF} (h : Apart fs) {f g : PF} (hf : f ∈ fs) (hg : g ∈ fs) (e : f.name = g.name) : f = g := by
  induction fs with
  | nil => cases hf
  | cons x r ih =>
    obtain ⟨h1, h2⟩ := List.pairwise_cons.1 h
    rcases List.mem_cons.1 hf with rfl | hf' <;> rcases List.mem_cons.1 hg with rfl | hg'
    · rfl
    · exact absurd e (h1 g hg')
    · exact absurd e.symm (h1 f hf')
    · exact ih h2 hf' hg'
theorem findF_some {nm : List UInt8} {fs : List PF} {f : PF} (h : findF nm fs = some f) : f ∈ fs ∧ f.name = nm := by
  unfold findF at h
  exact ⟨List.mem_of_find?_eq_some h, by simpa using List.find?_some h⟩
theorem findF_none {nm : List UInt8} {fs : List PF} (h : findF nm fs = none) : ∀ f ∈ fs, f.name ≠ nm := by
  intro f hf e
  unfold findF at h
  have := List.find?_eq_none.1 h f hf
  simp [e] at this
/-- As many different names make as many files. -/
theorem apart_len : ∀ {a b : List PF}, Apart a → (∀ f ∈ a, ∃ g ∈ b, g.name = f.name) → a.length ≤ b.length
  | [], b, _, _ => Nat.zero_le _
  | f :: r, b, h, hs => by
    obtain ⟨h1, h2⟩ := List.pairwise_cons.1 h
    obtain ⟨g, hg, hgf⟩ := hs f (List.mem_cons_self ..)
    have ih := apart_len (a := r) (b := dropF f.name b) h2 (fun x hx => by
      obtain ⟨y, hy, e⟩ := hs x (List.mem_cons_of_mem _ hx)
      exact ⟨y, mem_dropF.2 ⟨hy, by rw [e]; exact (h1 x hx).symm⟩, e⟩)
    have hlt : (dropF f.name b).length < b.length := by
      unfold dropF
      exact List.length_filter_lt_length_iff_exists.2 ⟨g, hg, by simp [hgf]⟩
    rw [List.length_cons]
    omega

/-! ### what steps keep -/
structure GoodS (st : DSt) : Prop where
  apart : Apart st.files
  sure : ∀ f ∈ st.files, f.sure ≤ f.data.length
theorem cutN_le (keep : Int) {f : PF} (h : f.sure ≤ f.data.length) : cutN keep f ≤ f.data.length := by unfold cutN; omega
theorem cut_len (keep : Int) {f : PF} (h : f.sure ≤ f.data.length) : (cutF keep f).data.length = cutN keep f := by
  show (f.data.take _).length = _
  rw [List.length_take, Nat.min_eq_left (cutN_le keep h)]
theorem GoodS.crash {st : DSt} (h : GoodS st) (keep : Int) : GoodS (crashS keep st) := by
  refine ⟨h.apart.map _ fun _ => rfl, fun f hf => ?_⟩
  obtain ⟨g, hg, rfl⟩ := List.mem_map.1 hf
  rw [cut_len keep (h.sure g hg)]
  exact Nat.le_refl _
theorem GoodS.begin_ {st : DSt} (h : GoodS st) : GoodS (beginS st).1 := by
  unfold beginS
  split
  · exact h
  · split
    · exact h.crash _
    · exact ⟨h.apart, h.sure⟩
theorem GoodS.put {st : DSt} (h : GoodS st) (f : PF) (hf : f.sure ≤ f.data.length) : GoodS { st with files := putF f st.files } := by
  refine ⟨h.apart.put f, fun g hg => ?_⟩
  rcases mem_putF.1 hg with rfl | ⟨hg', _⟩
  · exact hf
  · exact h.sure g hg'
theorem GoodS.drop {st : DSt} (h : GoodS st) (nm : List UInt8) : GoodS { st with files := dropF nm st.files } :=
  ⟨h.apart.drop nm, fun g hg => h.sure g (mem_dropF.1 hg).1⟩
theorem GoodS.append {st : DSt} (h : GoodS st) (nm b : List UInt8) : GoodS (appendS nm b st).1 := by
  unfold appendS
  split
  · exact h
  split
  · exact h
  split
  · exact h
  · refine h.put _ ?_
    cases hf : findF nm st.files with
    | none => exact Nat.zero_le _
    | some f =>
      have := h.sure f (findF_some hf).1
      show f.sure ≤ (f.data ++ b).length
      rw [List.length_append]
      omega
theorem GoodS.sync {st : DSt} (h : GoodS st) (nm : List UInt8) : GoodS (syncS nm st).1 := by
  unfold syncS
  split
  · exact h
  · split
    · exact h
    · exact h.put _ (Nat.le_refl _)
theorem GoodS.rename {st : DSt} (h : GoodS st) (nm to : List UInt8) : GoodS (renameS nm to st).1 := by
  unfold renameS
  split
  · exact h
  · split
    · exact h
    · next f hf => exact (h.drop nm).put _ (h.sure f (findF_some hf).1)
theorem GoodS.remove {st : DSt} (h : GoodS st) (nm : List UInt8) : GoodS (removeS nm st).1 := by
  unfold removeS
  split
  · exact h
  · split
    · exact h
    · exact h.drop nm
theorem GoodS.call {st : DSt} (h : GoodS st) (go : DSt → DSt × Int) (hg : ∀ s, GoodS s → GoodS (go s).1) : GoodS (callS go st).1 := by
  unfold callS
  split
  · exact hg _ h.begin_
  · exact h.begin_
theorem GoodS.step {st : DSt} (h : GoodS st) (s : Stp) : GoodS (doS st s).1 := by
  unfold doS
  split
  · exact h.call _ fun s hs => hs.append _ _
  split
  · exact h.call _ fun s hs => hs.sync _
  split
  · exact h.call _ fun s hs => hs.rename _ _
  split
  · exact h.call _ fun s hs => hs.remove _
  split
  · exact ⟨h.apart, h.sure⟩
  split
  · exact h.crash _
  split
  · exact ⟨h.apart, h.sure⟩
  · exact h

/-- What of each file is sure is there still, and sure. -/
def KeptF (a b : List PF) : Prop := ∀ f ∈ a, ∃ g ∈ b, g.name = f.name ∧ f.sure ≤ g.sure ∧ g.data.take f.sure = f.data.take f.sure
theorem KeptF.refl (a : List PF) : KeptF a a := fun f hf => ⟨f, hf, rfl, Nat.le_refl _, rfl⟩
theorem KeptF.trans {a b c : List PF} (h : KeptF a b) (h' : KeptF b c) : KeptF a c := fun f hf => by
  obtain ⟨g, hg, e1, s1, t1⟩ := h f hf
  obtain ⟨k, hk, e2, s2, t2⟩ := h' g hg
  refine ⟨k, hk, e2.trans e1, Nat.le_trans s1 s2, ?_⟩
  have : (k.data.take g.sure).take f.sure = (g.data.take g.sure).take f.sure := by rw [t2]
  rw [List.take_take, List.take_take, Nat.min_eq_left s1] at this
  rw [this, t1]
theorem kept_cut (keep : Int) (a : List PF) : KeptF a (a.map (cutF keep)) := fun f hf => by
  refine ⟨_, List.mem_map_of_mem hf, rfl, Nat.le_add_right _ _, ?_⟩
  show (f.data.take (cutN keep f)).take f.sure = _
  rw [List.take_take, Nat.min_eq_left (show f.sure ≤ cutN keep f from Nat.le_add_right _ _)]
theorem kept_begin (st : DSt) : KeptF st.files (beginS st).1.files := by
  unfold beginS
  split
  · exact KeptF.refl _
  · split
    · exact kept_cut _ _
    · exact KeptF.refl _
theorem kept_put {a : List PF} (h : Apart a) (f : PF) (hf : ∀ g ∈ a, g.name = f.name → g.sure ≤ f.sure ∧ f.data.take g.sure = g.data.take g.sure) : KeptF a (putF f a) := fun g hg => by
  by_cases e : g.name = f.name
  · exact ⟨f, mem_putF.2 (.inl rfl), e.symm, (hf g hg e).1, (hf g hg e).2⟩
  · exact ⟨g, mem_putF.2 (.inr ⟨hg, e⟩), rfl, Nat.le_refl _, rfl⟩
theorem kept_append {st : DSt} (h : GoodS st) (nm b : List UInt8) : KeptF st.files (appendS nm b st).1.files := by
  unfold appendS
  split
  · exact KeptF.refl _
  split
  · exact KeptF.refl _
  split
  · exact KeptF.refl _
  · refine kept_put h.apart _ fun g hg e => ?_
    cases hf : findF nm st.files with
    | none =>
      rw [hf] at e
      exact absurd e (findF_none hf g hg)
    | some f =>
      rw [hf] at e
      obtain ⟨h1, h2⟩ := findF_some hf
      obtain rfl : g = f := h.apart.eq hg h1 (e.trans h2.symm)
      refine ⟨Nat.le_refl _, ?_⟩
      show (g.data ++ b).take g.sure = _
      rw [List.take_append_of_le_length (h.sure g hg)]
theorem kept_sync {st : DSt} (h : GoodS st) (nm : List UInt8) : KeptF st.files (syncS nm st).1.files := by
  unfold syncS
  split
  · exact KeptF.refl _
  · split
    · exact KeptF.refl _
    · next f hf =>
      refine kept_put h.apart _ fun g hg e => ?_
      obtain ⟨h1, h2⟩ := findF_some hf
      obtain rfl : g = f := h.apart.eq hg h1 (e.trans h2.symm)
      exact ⟨h.sure g hg, rfl⟩
theorem kept_call {st : DSt} (h : GoodS st) (go : DSt → DSt × Int) (hg : ∀ s, GoodS s → KeptF s.files (go s).1.files) : KeptF st.files (callS go st).1.files := by
  unfold callS
  split
  · exact (kept_begin st).trans (hg _ h.begin_)
  · exact kept_begin st
theorem kept_step {st : DSt} (h : GoodS st) (s : Stp) (h3 : s.kind ≠ 3) (h4 : s.kind ≠ 4) : KeptF st.files (doS st s).1.files := by
  unfold doS
  split
  · exact kept_call h _ fun s hs => kept_append hs _ _
  split
  · exact kept_call h _ fun s hs => kept_sync hs _
  split
  · exact KeptF.refl _
  split
  · exact kept_cut _ _
  split
  · exact KeptF.refl _
  · exact KeptF.refl _
end Go.Proofs.Ytjdjidlopmanbaa
