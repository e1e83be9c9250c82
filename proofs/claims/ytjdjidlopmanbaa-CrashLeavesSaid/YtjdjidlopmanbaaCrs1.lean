/-
  crash: a call by its kind; whether it is one; what throws up an error.
-/
import Derived.Test.YtjdjidlopmanbaaPDskA
import Derived.Test.YtjdjidlopmanbaaCrN
import Derived.Test.YtjdjidlopmanbaaOp10c
import Derived.Test.YtjdjidlopmanbaaLCrashLeaves
namespace Go.Proofs.Ytjdjidlopmanbaa
open Go.RowKit
set_option linter.unusedVariables false

theorem IsQ.below {w w' : World} {O : Nat → Prop} {d : Nat} {st : DSt} (h : IsQ w O d st) (hb : Below w.heap.size w w') : IsQ w' O d st := by
  obtain ⟨⟨mb, L, h⟩, hz⟩ := h
  exact ⟨⟨mb, L, h.below hb⟩, hz⟩
theorem q_append {w : World} {O : Nat → Prop} {d : Nat} {st : DSt} (h : IsQ w O d st) (nm : ByteArray) (A : Option Addr) (n c : Nat) (b : List UInt8) (hs : nm.size ≤ 65536) (hb : b.length = n) (hnc : n ≤ c) (hc : c ≤ maxLen) (hbs : Bs w w.heap.size A b) (hz : sizeF st.files + n ≤ 1099511627776) :
    Calls Try.prog 38 #[dptr d, .string nm, .slice A n c] w (RetD IsQ (.int .i64 (callS (appendS (bl nm) b) st).2) (callS (appendS (bl nm) b) st).1 d O w) := by
  obtain ⟨⟨mb, L, h⟩, _⟩ := h
  exact (pdskAppend_any h nm A n c b hs hb hnc hc hbs hz).mono fun _ _ hr => hr.size (by
    have := size_call (appendS (bl nm) b) b.length (fun s => size_append (bl nm) b s) st
    omega)
theorem q_sync {w : World} {O : Nat → Prop} {d : Nat} {st : DSt} (h : IsQ w O d st) (nm : ByteArray) (hs : nm.size ≤ 65536) :
    Calls Try.prog 39 #[dptr d, .string nm] w (RetD IsQ (.int .i64 (callS (syncS (bl nm)) st).2) (callS (syncS (bl nm)) st).1 d O w) := by
  obtain ⟨⟨mb, L, h⟩, hz⟩ := h
  exact (pdskSync_any h nm hs).mono fun _ _ hr => hr.size (by
    have := size_call (syncS (bl nm)) 0 (fun s => size_sync (bl nm) s) st
    omega)
theorem q_rename {w : World} {O : Nat → Prop} {d : Nat} {st : DSt} (h : IsQ w O d st) (nm to : ByteArray) (hs : nm.size ≤ 65536) (ht : to.size ≤ 65536) :
    Calls Try.prog 40 #[dptr d, .string nm, .string to] w (RetD IsQ (.int .i64 (callS (renameS (bl nm) (bl to)) st).2) (callS (renameS (bl nm) (bl to)) st).1 d O w) := by
  obtain ⟨⟨mb, L, h⟩, hz⟩ := h
  exact (pdskRename_any h nm to hs ht).mono fun _ _ hr => hr.size (by
    have := size_call (renameS (bl nm) (bl to)) 0 (fun s => size_rename (bl nm) (bl to) s) st
    omega)
theorem q_remove {w : World} {O : Nat → Prop} {d : Nat} {st : DSt} (h : IsQ w O d st) (nm : ByteArray) (hs : nm.size ≤ 65536) :
    Calls Try.prog 41 #[dptr d, .string nm] w (RetD IsQ (.int .i64 (callS (removeS (bl nm)) st).2) (callS (removeS (bl nm)) st).1 d O w) := by
  obtain ⟨⟨mb, L, h⟩, hz⟩ := h
  exact (pdskRemove_any h nm hs).mono fun _ _ hr => hr.size (by
    have := size_call (removeS (bl nm)) 0 (fun s => size_remove (bl nm) s) st
    omega)
/-- A call or nothing, that is not too large, of bytes below B. -/
structure OpSmall (w : World) (B : Nat) (o : Opn) : Prop where
  kind : (Lit.int .i64 o.kind).wf = true
  name : o.name.size ≤ 100
  to : o.to.size ≤ 100
  n : o.n ≤ 200
  len : o.data.length = o.n
  cap : o.n ≤ o.c
  max : o.c ≤ maxLen
  data : Bs w B o.A o.data
theorem OpSmall.later {w w' : World} {B B' : Nat} {o : Opn} (h : OpSmall w B o) (hb : Below B w w') (hB : B ≤ B') : OpSmall w' B' o :=
  ⟨h.kind, h.name, h.to, h.n, h.len, h.cap, h.max, (h.data.below hb (Nat.le_refl _)).more hB⟩

set_option maxRecDepth 100000 in
set_option maxHeartbeats 3200000 in
theorem cdo_any {w : World} {O : Nat → Prop} {d : Nat} {st : DSt} (h : IsQ w O d st) (o : Opn) (ho : OpSmall w w.heap.size o) (hc : isCallO o = true) (hz : sizeF st.files ≤ 1048576) :
    Calls Try.prog 27 #[dptr d, .agg #[.int .i64 o.kind, .string o.name, .string o.to, .slice o.A o.n o.c]] w (RetD IsQ (.int .i64 (opS st o).2) (opS st o).1 d O w) := by
  obtain ⟨kind, name, to, OA, on, oc, data⟩ := o
  obtain ⟨h1, h2, h3, h4, h5, h6, h7, h8⟩ := ho
  simp only at h1 h2 h3 h4 h5 h6 h7 h8
  show Calls Try.prog 27 #[dptr d, .agg #[.int .i64 kind, .string name, .string to, .slice OA on oc]] w (RetD IsQ (.int .i64 (opS st ⟨kind, name, to, OA, on, oc, data⟩).2) (opS st ⟨kind, name, to, OA, on, oc, data⟩).1 d O w)
  have hE : ∀ x, Eff O O w (w.alloc x) := fun x => Eff.alloc O w x
  have hI : ∀ x, IsQ (w.alloc x) O d st := fun x => h.below ((Below.refl _ w).alloc (Nat.le_refl _) x)
  have hBB : ∀ x, Bs (w.alloc x) (w.alloc x).heap.size OA data := fun x => (h8.alloc (Nat.le_refl _) x).more (by simp)
  by_cases k1 : kind = 1
  · subst k1
    have HC := Lib.hid (fun x => q_append (hI x) name OA on oc data (by omega) h5 h6 h7 (hBB x) (by omega))
    have HE := Lib.hid hE
    have HO : Hid (opS st ⟨1, name, to, OA, on, oc, data⟩ = callS (appendS (bl name) data) st) := rfl
    clear hE hI hBB h h8
    go_enter Try.func27, Try.ntmps27
    go_wp2_with fail
    refine (HC.out _).mono ?_
    rintro e w1 ⟨O', rfl, hi', he⟩
    have HR : Hid (RetD IsQ (.int .i64 (opS st ⟨1, name, to, OA, on, oc, data⟩).2) (opS st ⟨1, name, to, OA, on, oc, data⟩).1 d O w (.returned (.int .i64 (callS (appendS (bl name) data) st).2)) w1) := by
      show RetD _ _ _ _ _ _ _ _
      rw [HO.out]
      exact ⟨O', rfl, hi', (HE.out _).trans he⟩
    clear hi' he
    go_wp2_with fail
    go_ret
    exact HR.out
  by_cases k2 : kind = 2
  · subst k2
    have HC := Lib.hid (fun x => q_sync (hI x) name (by omega))
    have HE := Lib.hid hE
    have HO : Hid (opS st ⟨2, name, to, OA, on, oc, data⟩ = callS (syncS (bl name)) st) := rfl
    clear hE hI hBB h h8
    go_enter Try.func27, Try.ntmps27
    go_wp2_with fail
    refine (HC.out _).mono ?_
    rintro e w1 ⟨O', rfl, hi', he⟩
    have HR : Hid (RetD IsQ (.int .i64 (opS st ⟨2, name, to, OA, on, oc, data⟩).2) (opS st ⟨2, name, to, OA, on, oc, data⟩).1 d O w (.returned (.int .i64 (callS (syncS (bl name)) st).2)) w1) := by
      show RetD _ _ _ _ _ _ _ _
      rw [HO.out]
      exact ⟨O', rfl, hi', (HE.out _).trans he⟩
    clear hi' he
    go_wp2_with fail
    go_ret
    exact HR.out
  by_cases k3 : kind = 3
  · subst k3
    have HC := Lib.hid (fun x => q_rename (hI x) name to (by omega) (by omega))
    have HE := Lib.hid hE
    have HO : Hid (opS st ⟨3, name, to, OA, on, oc, data⟩ = callS (renameS (bl name) (bl to)) st) := rfl
    clear hE hI hBB h h8
    go_enter Try.func27, Try.ntmps27
    go_wp2_with fail
    refine (HC.out _).mono ?_
    rintro e w1 ⟨O', rfl, hi', he⟩
    have HR : Hid (RetD IsQ (.int .i64 (opS st ⟨3, name, to, OA, on, oc, data⟩).2) (opS st ⟨3, name, to, OA, on, oc, data⟩).1 d O w (.returned (.int .i64 (callS (renameS (bl name) (bl to)) st).2)) w1) := by
      show RetD _ _ _ _ _ _ _ _
      rw [HO.out]
      exact ⟨O', rfl, hi', (HE.out _).trans he⟩
    clear hi' he
    go_wp2_with fail
    go_ret
    exact HR.out
  · have k4 : kind = 4 := by
      unfold isCallO at hc
      simp only [Bool.and_eq_true, decide_eq_true_eq] at hc
      omega
    subst k4
    clear k1 k2 k3 hc
    have HC := Lib.hid (fun x => q_remove (hI x) name (by omega))
    have HE := Lib.hid hE
    have HO : Hid (opS st ⟨4, name, to, OA, on, oc, data⟩ = callS (removeS (bl name)) st) := rfl
    clear hE hI hBB h h8
    go_enter Try.func27, Try.ntmps27
    go_wp2_with fail
    refine (HC.out _).mono ?_
    rintro e w1 ⟨O', rfl, hi', he⟩
    have HR : Hid (RetD IsQ (.int .i64 (opS st ⟨4, name, to, OA, on, oc, data⟩).2) (opS st ⟨4, name, to, OA, on, oc, data⟩).1 d O w (.returned (.int .i64 (callS (removeS (bl name)) st).2)) w1) := by
      show RetD _ _ _ _ _ _ _ _
      rw [HO.out]
      exact ⟨O', rfl, hi', (HE.out _).trans he⟩
    clear hi' he
    go_wp2_with fail
    go_ret
    exact HR.out
set_option maxRecDepth 100000 in
theorem cis_any (o : Opn) (w : World) : Calls Try.prog 25 #[.agg #[.int .i64 o.kind, .string o.name, .string o.to, .slice o.A o.n o.c]] w fun e w' => e = .returned (.bool (isCallO o)) ∧ Below w.heap.size w w' := by
  have hb : ∀ x, Below w.heap.size w (w.alloc x) := fun x => (Below.refl _ w).alloc (Nat.le_refl _) x
  have HB := Lib.hid hb
  obtain ⟨k, hk⟩ : ∃ k, o.kind = k := ⟨_, rfl⟩
  have hF : isCallO o = (decide (1 ≤ k) && decide (k ≤ 4)) := by unfold isCallO; rw [hk]
  rw [hk]
  have HF := Lib.hid hF
  clear hb hF hk
  by_cases h1 : 1 ≤ k
  · by_cases h4 : k ≤ 4
    · have g1 : decide (1 ≤ k) = true := by rw [decide_eq_true_iff]; omega
      have g2 : decide (k ≤ 4) = true := decide_eq_true h4
      have HR : Hid (isCallO o = true) := by show _ = _; rw [HF.out]; simp [h1, h4]
      go_enter Try.func25, Try.ntmps25
      go_wp2_with fail
      go_ret
      exact ⟨by rw [HR.out]; rfl, HB.out _⟩
    · have g1 : decide (1 ≤ k) = true := by rw [decide_eq_true_iff]; omega
      have g2 : decide (k ≤ 4) = false := decide_eq_false h4
      have HR : Hid (isCallO o = false) := by show _ = _; rw [HF.out]; simp [h4]
      go_enter Try.func25, Try.ntmps25
      go_wp2_with fail
      go_ret
      exact ⟨by rw [HR.out]; rfl, HB.out _⟩
  · have g1 : decide (1 ≤ k) = false := by rw [decide_eq_false_iff_not]; omega
    have HR : Hid (isCallO o = false) := by show _ = _; rw [HF.out]; simp [h1]
    go_enter Try.func25, Try.ntmps25
    go_wp2_with fail
    go_ret
    exact ⟨by rw [HR.out]; rfl, HB.out _⟩

abbrev thrown (e : Int) : Value := .iface 34 (.int .i64 e)
/-- How 'must' ends. -/
def mustEnd (e : Int) : Ending := if e = 0 then .returned (.tuple #[]) else .panicked [{ v := thrown e, recovered := false }]
theorem cmust_any (e0 : Int) (w : World) : Calls Try.prog 26 #[.int .i64 e0] w fun e w' => e = mustEnd e0 ∧ w' = w := by
  by_cases h0 : e0 = 0
  · subst h0
    go_enter Try.func26, Try.ntmps26
    go_wp2_with fail
    (first | go_end0 | (refine bodyPost_ret (results_none rfl _ _ _) rfl ?_))
    exact ⟨rfl, rfl⟩
  · have g0 : (e0 != 0) = true := by simpa using h0
    have HN0 := Lib.hid h0
    clear h0
    go_enter Try.func26, Try.ntmps26
    go_wp2_with fail
    exact ⟨rfl, by unfold mustEnd; rw [if_neg HN0.out], rfl⟩
end Go.Proofs.Ytjdjidlopmanbaa
