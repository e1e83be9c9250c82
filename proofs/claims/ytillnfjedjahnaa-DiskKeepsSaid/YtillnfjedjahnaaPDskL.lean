/-
  A disk's calls do what they are to do; those of a disk that is nil, too.
-/
import Derived.Test.YtillnfjedjahnaaPDskA
import Derived.Test.YtillnfjedjahnaaLDiskNobody
namespace Go.Proofs.Ytillnfjedjahnaa
open Go.RowKit
set_option linter.unusedVariables false

def IsQ (w : World) (O : Nat → Prop) (d : Nat) (st : DSt) : Prop := IsP w O d st ∧ sizeF st.files ≤ 1099511627776
theorem RetD.size {v : Value} {st : DSt} {d : Nat} {O : Nat → Prop} {w w' : World} {e : Ending} (h : RetD IsP v st d O w e w') (hs : sizeF st.files ≤ 1099511627776) : RetD IsQ v st d O w e w' := by
  obtain ⟨O', h1, h2, h3⟩ := h
  exact ⟨O', h1, ⟨h2, hs⟩, h3⟩
theorem disk_laws : DiskLaws IsQ where
  lt := fun ⟨⟨_, _, h⟩, _⟩ hb => h.lt _ hb
  keep := fun ⟨⟨mb, L, h⟩, hz⟩ hb hs => ⟨⟨mb, L, h.stay hb hs⟩, hz⟩
  good := fun ⟨⟨_, _, h⟩, _⟩ => h.good
  new := fun w cap hc => (pdskNew_any w cap hc).mono fun _ _ ⟨d, h⟩ => ⟨d, h.size (Nat.zero_le _)⟩
  append := fun {w O d st} nm A n c b ⟨⟨mb, L, h⟩, _⟩ hs hb hnc hc hbs hz => (pdskAppend_any h nm A n c b hs hb hnc hc hbs hz).mono fun _ _ hr => hr.size (by
    have := size_call (appendS (bl nm) b) b.length (fun s => size_append (bl nm) b s) st
    omega)
  sync := fun {w O d st} nm ⟨⟨mb, L, h⟩, hz⟩ hs => (pdskSync_any h nm hs).mono fun _ _ hr => hr.size (by
    have := size_call (syncS (bl nm)) 0 (fun s => size_sync (bl nm) s) st
    omega)
  rename := fun {w O d st} nm to ⟨⟨mb, L, h⟩, hz⟩ hs ht => (pdskRename_any h nm to hs ht).mono fun _ _ hr => hr.size (by
    have := size_call (renameS (bl nm) (bl to)) 0 (fun s => size_rename (bl nm) (bl to) s) st
    omega)
  remove := fun {w O d st} nm ⟨⟨mb, L, h⟩, hz⟩ hs => (pdskRemove_any h nm hs).mono fun _ _ hr => hr.size (by
    have := size_call (removeS (bl nm)) 0 (fun s => size_remove (bl nm) s) st
    omega)
  arm := fun n keep ⟨⟨mb, L, h⟩, hz⟩ hn hk => (pdskArm_any h n keep hn hk).mono fun _ _ hr => hr.size hz
  crash := fun {w O d st} keep ⟨⟨mb, L, h⟩, hz⟩ hk => (pdskCrash_any h keep hk).mono fun _ _ hr => hr.size (Nat.le_trans (sizeF_cut keep st.files) hz)
  up := fun ⟨⟨mb, L, h⟩, hz⟩ => (pdskUp_any h).mono fun _ _ hr => hr.size hz
  down := fun ⟨⟨mb, L, h⟩, _⟩ => (pdskDown_any h).mono fun _ _ ⟨he, hw⟩ => ⟨he, hw ▸ Below.refl _ _⟩
  files := fun ⟨⟨mb, L, h⟩, hz⟩ => pdskFiles_any h hz

/-! ### a disk that is nil -/
theorem downNil_any (w : World) : Calls Try.prog 14 #[.pointer none] w fun e w' => e = .returned (.bool true) ∧ w = w' := by
  go_enter Try.func14, Try.ntmps14
  go_wp2_with fail
  go_ret
  exact ⟨rfl, rfl⟩
theorem beginNil_any (w : World) : Calls Try.prog 27 #[.pointer none] w fun e w' => e = .returned (.bool false) ∧ w = w' := by
  have HD := Lib.hid (downNil_any w)
  go_enter Try.func27, Try.ntmps27
  go_wp2_with fail
  refine HD.out.mono ?_
  rintro e w' ⟨rfl, rfl⟩
  go_wp2_with fail
  go_ret
  exact ⟨rfl, rfl⟩
theorem appendNil_any (w : World) (nm : ByteArray) (A : Option Addr) (n c : Nat) : Answers 18 #[.pointer none, .string nm, .slice A n c] w (.int .i64 19) := by
  have HD := Lib.hid (beginNil_any w)
  unfold Answers
  go_enter Try.func18, Try.ntmps18
  go_wp2_with fail
  refine HD.out.mono ?_
  rintro e w' ⟨rfl, rfl⟩
  go_wp2_with fail
  go_ret
  exact ⟨rfl, Below.refl _ _⟩
theorem syncNil_any (w : World) (nm : ByteArray) : Answers 19 #[.pointer none, .string nm] w (.int .i64 19) := by
  have HD := Lib.hid (beginNil_any w)
  unfold Answers
  go_enter Try.func19, Try.ntmps19
  go_wp2_with fail
  refine HD.out.mono ?_
  rintro e w' ⟨rfl, rfl⟩
  go_wp2_with fail
  go_ret
  exact ⟨rfl, Below.refl _ _⟩
theorem renameNil_any (w : World) (nm to : ByteArray) : Answers 20 #[.pointer none, .string nm, .string to] w (.int .i64 19) := by
  have HD := Lib.hid (beginNil_any w)
  unfold Answers
  go_enter Try.func20, Try.ntmps20
  go_wp2_with fail
  refine HD.out.mono ?_
  rintro e w' ⟨rfl, rfl⟩
  go_wp2_with fail
  go_ret
  exact ⟨rfl, Below.refl _ _⟩
theorem removeNil_any (w : World) (nm : ByteArray) : Answers 21 #[.pointer none, .string nm] w (.int .i64 19) := by
  have HD := Lib.hid (beginNil_any w)
  unfold Answers
  go_enter Try.func21, Try.ntmps21
  go_wp2_with fail
  refine HD.out.mono ?_
  rintro e w' ⟨rfl, rfl⟩
  go_wp2_with fail
  go_ret
  exact ⟨rfl, Below.refl _ _⟩
theorem armNil_any (w : World) (n keep : Int) : Answers 22 #[.pointer none, .int .u64 n, .int .i64 keep] w (.tuple #[]) := by
  unfold Answers
  go_enter Try.func22, Try.ntmps22
  go_wp2_with fail
  (first | go_end0 | (refine bodyPost_ret (results_none rfl _ _ _) rfl ?_))
  exact ⟨rfl, Below.refl _ _⟩
theorem crashNil_any (w : World) (keep : Int) : Answers 10 #[.pointer none, .int .i64 keep] w (.tuple #[]) := by
  unfold Answers
  go_enter Try.func10, Try.ntmps10
  go_wp2_with fail
  (first | go_end0 | (refine bodyPost_ret (results_none rfl _ _ _) rfl ?_))
  exact ⟨rfl, Below.refl _ _⟩
theorem upNil_any (w : World) : Answers 23 #[.pointer none] w (.tuple #[]) := by
  unfold Answers
  go_enter Try.func23, Try.ntmps23
  go_wp2_with fail
  (first | go_end0 | (refine bodyPost_ret (results_none rfl _ _ _) rfl ?_))
  exact ⟨rfl, Below.refl _ _⟩
theorem readNil_any (w : World) (nm : ByteArray) : Answers 13 #[.pointer none, .string nm] w (.tuple #[.slice none 0 0, .int .i64 19]) := by
  have HD := Lib.hid (downNil_any w)
  unfold Answers
  go_enter Try.func13, Try.ntmps13
  go_wp2_with fail
  refine HD.out.mono ?_
  rintro e w' ⟨rfl, rfl⟩
  go_wp2_with fail
  go_ret2
  exact ⟨rfl, Below.refl _ _⟩
theorem listNil_any (w : World) : Answers 15 #[.pointer none] w (.slice none 0 0) := by
  unfold Answers
  go_enter Try.func15, Try.ntmps15
  go_wp2_with fail
  go_ret
  exact ⟨rfl, Below.refl _ _⟩
theorem filesNil_any (w : World) : Answers 9 #[.pointer none] w (.slice none 0 0) := by
  have HL := Lib.hid (listNil_any w)
  unfold Answers at HL ⊢
  go_enter Try.func9, Try.ntmps9
  go_wp2_with fail
  refine HL.out.mono ?_
  rintro e w1 ⟨rfl, hb⟩
  have HB := Lib.hid hb
  clear hb
  go_wp2_with fail
  go_loopw [3, 5, 6, 10] (fun lv _ _ iv wr => lv = .slice none 0 0 ∧ iv = .int .i64 0 ∧ wr = w1) (fun _ _ _ _ _ => 0)
  case atStart => exact ⟨rfl, rfl, rfl⟩
  case round =>
    obtain ⟨rfl, rfl, rfl⟩ := hrel
    go_wp2_with fail
    go_ret
    exact ⟨rfl, HB.out⟩
theorem sizeNil_any (w : World) : Answers 16 #[.pointer none] w (.int .i64 0) := by
  unfold Answers
  go_enter Try.func16, Try.ntmps16
  go_wp2_with fail
  go_ret
  exact ⟨rfl, Below.refl _ _⟩
theorem callsNil_any (w : World) : Answers 17 #[.pointer none] w (.int .u64 0) := by
  unfold Answers
  go_enter Try.func17, Try.ntmps17
  go_wp2_with fail
  go_ret
  exact ⟨rfl, Below.refl _ _⟩
theorem nil_laws : NilLaws where
  append := appendNil_any
  sync := syncNil_any
  rename := renameNil_any
  remove := removeNil_any
  arm := armNil_any
  crash := crashNil_any
  up := upNil_any
  read := readNil_any
  down := fun w => (downNil_any w).mono fun _ _ ⟨he, hw⟩ => ⟨he, hw ▸ Below.refl _ _⟩
  files := filesNil_any
  list := listNil_any
  size := sizeNil_any
  calls := callsNil_any
end Go.Proofs.Ytillnfjedjahnaa
