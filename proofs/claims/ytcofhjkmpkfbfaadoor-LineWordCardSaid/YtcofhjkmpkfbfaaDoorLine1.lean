/-
  Package line: the first word; signs; what a word is by its sign.
-/
import Derived.Test.YtcofhjkmpkfbfaaDoorName4
import Derived.Test.YtcofhjkmpkfbfaaDoorParse
import Derived.Laws.ResultCell
namespace Go.Proofs.YtcofhjkmpkfbfaaDoor
open Go.RowKit
set_option linter.unusedVariables false

/-- The first of the words. -/
def firstL (r : Option (List (List UInt8))) : List UInt8 := (r.getD []).headD []

theorem firstL_at (r : Option (List (List UInt8))) (h : 0 < ((r.getD []).map sv).length) : ((r.getD []).map sv)[0] = sv (firstL r) := by
  rw [List.getElem_map]
  unfold firstL
  generalize r.getD [] = l at h ⊢
  match l, h with
  | x :: t, _ => rfl

set_option maxHeartbeats 1600000 in
theorem lword_any (s : ByteArray) (w : World) (hs : s.size ≤ 65536) (hm : MaxL w) :
    Calls Tryd.prog 6 #[.string s] w fun e w' => e = .returned (sv (firstL (wordsL (bl s)))) ∧ Below w.heap.size w w' := by
  have HC := Lib.hid (nwords_any s w hs hm)
  obtain ⟨r, hr⟩ : ∃ r, wordsL (bl s) = r := ⟨_, rfl⟩
  rw [hr] at HC ⊢
  clear hr
  go_enter Tryd.func6, Tryd.ntmps6
  go_wp2_with fail
  refine HC.out.mono ?_
  rintro e w1 ⟨A, n, c, rfl, hn, hnc, hcm, hv, hb⟩
  have hnn := hn.out
  rcases Nat.eq_zero_or_pos n with h0 | h0
  · subst h0
    have HF : Hid (firstL r = []) := by
      show _ = _
      unfold firstL
      rw [List.eq_nil_of_length_eq_zero hnn]
      rfl
    clear hnn hn hv
    go_wp2_with fail
    go_ret
    exact ⟨by rw [HF.out]; rfl, hb⟩
  · obtain ⟨b, o, rfl, hbb, hc⟩ := hv.at_ (by rw [List.length_map]; omega)
    have h1 := hc 0 (by rw [List.length_map]; omega)
    rw [firstL_at r (by rw [List.length_map]; omega)] at h1
    have h1' : w1.cell? ⟨b, o, none⟩ = some (sv (firstL r)) := h1
    have g1 : ((n : Int) == 0) = false := by rw [beq_eq_false_iff_ne]; omega
    have g2 : (0 : Int) < (n : Int) := by omega
    have HV : Hid (sv (firstL r) = .string ⟨(firstL r).toArray⟩) := Lib.hid rfl
    rw [HV.out] at h1'
    clear hnn hn hv hc h1 h0
    go_wp2_with fail
    go_ret
    exact ⟨by rw [HV.out]; rfl, hb⟩

/-! ### signs -/
/-- What a sign is. -/
def isSign (r : Nat) : Bool := decide (r = 116) || decide (r = 104) || decide (r = 110) || decide (r = 98) || decide (r = 115)
def knownL (l : List UInt8) : Bool := l.all fun x => isSign x.toNat
theorem isSign_high (r : Nat) (h : 128 ≤ r) : isSign r = false := by
  unfold isSign
  simp only [Bool.or_eq_false_iff, decide_eq_false_iff_not]
  omega
theorem isSign_cases {r : Nat} (h : isSign r = true) : r = 116 ∨ r = 104 ∨ r = 110 ∨ r = 98 ∨ r = 115 := by
  unfold isSign at h
  simp only [Bool.or_eq_true, decide_eq_true_eq] at h
  omega

set_option maxHeartbeats 1600000 in
theorem known_any (s : ByteArray) (w : World) (hs : s.size ≤ maxLen) : Calls Tryd.prog 9 #[.string s] w fun e w' => e = .returned (.bool (knownL (bl s))) ∧ ∃ pos, w' = w.iter s pos := by
  unfold maxLen at hs
  go_enter Tryd.func9, Tryd.ntmps9
  go_wp2_with fail
  go_loopw [4] (fun _ wr => ∃ p : Nat, p ≤ s.size ∧ wr = w.iter s p ∧ Hid (knownL (bl s) = knownL ((bl s).drop p))) (fun _ wr => s.size - wr.iterPos w.heap.size)
  case atStart => exact ⟨0, Nat.zero_le _, rfl, Lib.hid rfl⟩
  case round =>
    obtain ⟨p, hp, rfl, HI⟩ := hrel
    by_cases hlt : p < s.size
    · obtain ⟨r, k, hk, hlo, hhi, hnx⟩ := rune_wide s p hlt
      have hnx' : ∀ ty, (Instr.next (.pointer (some ⟨w.heap.size, 0, none⟩)) true ty).run Tryd.prog (w.iter s p) = .ok (.tuple #[.bool true, .int .i64 p, .int .i32 (r : Int)]) (w.iter s (p + k)) := fun ty => hnx w Tryd.prog ty
      clear hnx
      have hi := HI.out
      rw [bl_drop s p hlt, show knownL (s[p] :: (bl s).drop (p + 1)) = (isSign s[p].toNat && knownL ((bl s).drop (p + 1))) from rfl] at hi
      cases hsg : isSign s[p].toNat with
      | true =>
        have hlow : s[p].toNat < 128 := by
          rcases Nat.lt_or_ge s[p].toNat 128 with h | h
          · exact h
          · rw [isSign_high _ h] at hsg; cases hsg
        obtain ⟨hre, rfl⟩ := hlo hlow
        rw [hsg, Bool.true_and] at hi
        have HN := Lib.hid hi
        have h5 := isSign_cases hsg
        rw [← hre] at h5
        clear hi HI hlo hhi hre hlow hsg
        rcases h5 with h5 | h5 | h5 | h5 | h5
        all_goals
          subst h5
          go_wp2_with fail
          go_roundw
          case rel => exact ⟨p + 1, by omega, rfl, HN⟩
          case measure => simp; omega
      | false =>
        rw [hsg, Bool.false_and] at hi
        have HF := Lib.hid hi
        have hne : isSign r = false := by
          rcases Nat.lt_or_ge s[p].toNat 128 with h | h
          · rw [(hlo h).1]; exact hsg
          · exact isSign_high _ (hhi h).1
        unfold isSign at hne
        simp only [Bool.or_eq_false_iff, decide_eq_false_iff_not] at hne
        obtain ⟨⟨⟨⟨n1, n2⟩, n3⟩, n4⟩, n5⟩ := hne
        have g1 : ((r : Int) == 116) = false := by rw [beq_eq_false_iff_ne]; omega
        have g2 : ((r : Int) == 104) = false := by rw [beq_eq_false_iff_ne]; omega
        have g3 : ((r : Int) == 110) = false := by rw [beq_eq_false_iff_ne]; omega
        have g4 : ((r : Int) == 98) = false := by rw [beq_eq_false_iff_ne]; omega
        have g5 : ((r : Int) == 115) = false := by rw [beq_eq_false_iff_ne]; omega
        clear hi HI hlo hhi hsg n1 n2 n3 n4 n5
        go_wp2_with fail
        go_ret
        exact ⟨by rw [HF.out]; rfl, _, rfl⟩
    · obtain rfl : p = s.size := by omega
      have hnx' : ∀ ty, (Instr.next (.pointer (some ⟨w.heap.size, 0, none⟩)) true ty).run Tryd.prog (w.iter s s.size) = _ := fun ty => run_next_end w s s.size ty (Nat.lt_irrefl _)
      have hi := HI.out
      rw [bl_end s _ (Nat.le_refl _)] at hi
      have HF : Hid (knownL (bl s) = true) := Lib.hid hi
      clear HI hi
      go_wp2_with fail
      go_ret
      exact ⟨by rw [HF.out]; rfl, _, rfl⟩

/-! ### what a word is by its sign -/
/-- What a function answers whose first result is a struct in a cell, and its second a plain one. -/
theorem result_rec {P : Program} {ty : TypeId} {fs : Array Field} {n : Nat} (hu : P.underlying ty = some (.struct fs)) (hs : (P.info? ty).map (·.size) = some n) {fn : Func} {p u : Tmp} (h : fn.results = #[.cell p ty, .tmp u]) (tmps : Array Value)
    {w : World} {g : Nat} {t' : TypeId} {vs : List Value} (hg : Bk w g t' vs) (hn : vs.length = n) (hp : tmps.getD p undef = .pointer (some ⟨g, 0, none⟩)) :
    (results fn tmps).run P w = .ok (.tuple #[.agg vs.toArray, tmps.getD u undef]) w := by
  rw [results_cell_tmp h, hp]
  have e : (asAddr (.pointer (some ⟨g, 0, none⟩))).run P w = .ok ⟨g, 0, none⟩ w := by
    simp [asAddr]
  rw [e, Result.andThen_ok, run_loadVar_row w g t' ty vs.toArray (0, 0) _ hg hu rfl (by rw [hs]; simp [hn]), Result.andThen_ok]

/-- A struct of three cells in a cell of the call's own, and an error. -/
theorem ret_field {fn : Func} (h : fn.results = #[.cell 4 35, .tmp 5]) (tmps : Array Value) (w : World) (a b c e : Value) (t' : TypeId) (g : Nat)
    (hg : w.heap[g]? = some (.cells #[a, b, c] t' (0, 0))) (hp : tmps.getD 4 undef = .pointer (some ⟨g, 0, none⟩)) (he : tmps.getD 5 undef = e) :
    (results fn tmps).run Tryd.prog w = .ok (.tuple #[.agg #[a, b, c], e]) w := by
  rw [result_rec (n := 3) Tryd.underlying35 (by kernel_rfl) h tmps (vs := [a, b, c]) hg rfl hp, he]
theorem heap_last (w : World) (o : Obj) : (w.alloc o).heap[w.heap.size]? = some o := heap_alloc_new w o

theorem text_any (s : ByteArray) (is : Bool) (w : World) : Calls Tryd.prog 13 #[.string s, .bool is] w fun e w' =>
    e = .returned (.tuple #[.agg #[.string (if is then s else ⟨#[]⟩), .int .u64 0, .slice none 0 0], .int .i64 (if is then 0 else 2)]) ∧ Below w.heap.size w w' := by
  cases is with
  | true =>
    go_enter Tryd.func13, Tryd.ntmps13
    go_wp2_with fail
    exact bodyPost_ret (ret_field rfl _ _ _ _ _ _ _ _ (heap_last _ _) rfl rfl) rfl ⟨rfl, (Below.refl _ _).alloc (Nat.le_refl _) _⟩
  | false =>
    go_enter Tryd.func13, Tryd.ntmps13
    go_wp2_with fail
    exact bodyPost_ret (ret_field rfl _ _ _ _ _ _ _ _ (heap_last _ _) rfl rfl) rfl ⟨rfl, (Below.refl _ _).alloc (Nat.le_refl _) _⟩

/-- A field is stored whole. -/
theorem fld_store {ops : Array Oper} {rest : List Oper} {o : Oper} {a : Act} {w : World} {Q : Exit → Act → World → Prop} (hgd : o.guard = none) (x y : Operand) (ho : o.op = .store 35 x y)
    {g : Nat} {t' : TypeId} {b c d a' b' c' : Value} (hx : a.eval x = .pointer (some ⟨g, 0, none⟩)) (h : w.heap[g]? = some (.cells #[b, c, d] t' (0, 0))) (hy : a.eval y = .agg #[a', b', c'])
    (h1 : ∀ v ∈ [a', b', c'], v.oneCell' = true) (hK : wpList Tryd.prog ops Q rest (a.put o.dst undef) (w.setRow g #[a', b', c'])) : wpList Tryd.prog ops Q (o :: rest) a w :=
  wpList_store_row hgd 35 x y ho g #[a', b', c'] hx hy t' #[b, c, d] h (by kernel_rfl) rfl (by rw [Array.all_eq_true_iff_forall_mem]; simpa using h1) hK
theorem heap_row {w : World} {g : Nat} {t' : TypeId} {b c d : Value} (h : w.heap[g]? = some (.cells #[b, c, d] t' (0, 0))) (a' b' c' : Value) : (w.setRow g #[a', b', c']).heap[g]? = some (.cells #[a', b', c'] t' (0, 0)) :=
  Bk.row (vs := [b, c, d]) h #[a', b', c']
theorem heap_under {w w1 : World} {o : Obj} (hb : Below (w.alloc o).heap.size (w.alloc o) w1) : w1.heap[w.heap.size]? = some o :=
  (hb.block w.heap.size (by show _ < (w.heap.push o).size; simp)).trans (heap_last w o)
theorem below_under {w w1 : World} {o : Obj} (hb : Below (w.alloc o).heap.size (w.alloc o) w1) : Below w.heap.size w w1 :=
  ((Below.refl w.heap.size w).alloc (Nat.le_refl _) o).trans (hb.mono (by show _ ≤ (w.heap.push o).size; simp))

/-- A number of at most so much. -/
def mostV (l : List UInt8) (m : Nat) : Nat := if numV l ≤ m then numV l else 0
def mostE (l : List UInt8) (m : Nat) : Int := if numV l ≤ m then numE l else 6
theorem count_any (s : ByteArray) (m : Nat) (w : World) (hs : s.size ≤ 65536) (hO : Over w) : Calls Tryd.prog 16 #[.string s, .int .u64 (m : Int)] w fun e w' =>
    e = .returned (.tuple #[.agg #[.string ⟨#[]⟩, .int .u64 (mostV (bl s) m : Int), .slice none 0 0], .int .i64 (mostE (bl s) m)]) ∧ Below w.heap.size w w' := by
  have HC := Lib.hid (fun W (h : Over W) => nnumber_any s W hs h)
  have hO1 := fun o => hO.stay ((Below.refl w.heap.size w).alloc (Nat.le_refl _) o)
  obtain ⟨v, hv⟩ : ∃ v, numV (bl s) = v := ⟨_, rfl⟩
  obtain ⟨x, hx⟩ : ∃ x, numE (bl s) = x := ⟨_, rfl⟩
  have HM : Hid (mostV (bl s) m = if v ≤ m then v else 0) := by show _ = _; unfold mostV; rw [hv]
  have HE : Hid (mostE (bl s) m = if v ≤ m then x else 6) := by show _ = _; unfold mostE; rw [hv, hx]
  rw [hv, hx] at HC
  clear hv hx
  by_cases hm : v ≤ m
  · rw [if_pos hm] at HM HE
    have g1 : ¬ m < v := by omega
    clear hm
    go_enter Tryd.func16, Tryd.ntmps16
    go_wp2_with fail
    refine (HC.out _ (hO1 _)).mono ?_
    rintro e w1 ⟨rfl, hb⟩
    have HB := Lib.hid (heap_under hb)
    have hb2 := below_under hb
    clear hb hO1
    go_wp2_with (first | (refine fld_store (by rfl) (.tmp 4) (.tmp 17) (by rfl) (by rfl) HB.out (by rfl) (by simp [Value.oneCell']) ?_))
    exact bodyPost_ret (ret_field rfl _ _ _ _ _ _ _ _ (heap_row HB.out _ _ _) rfl rfl) rfl ⟨by rw [HM.out, HE.out]; rfl, below_row hb2 (Nat.le_refl _) _⟩
  · rw [if_neg hm] at HM HE
    have g1 : m < v := by omega
    clear hm
    go_enter Tryd.func16, Tryd.ntmps16
    go_wp2_with fail
    refine (HC.out _ (hO1 _)).mono ?_
    rintro e w1 ⟨rfl, hb⟩
    have HB := Lib.hid (heap_under hb)
    have hb2 := below_under hb
    clear hb hO1
    go_wp2_with (first | (refine fld_store (by rfl) (.tmp 4) (.tmp 17) (by rfl) (by rfl) HB.out (by rfl) (by simp [Value.oneCell']) ?_))
    exact bodyPost_ret (ret_field rfl _ _ _ _ _ _ _ _ (heap_row HB.out _ _ _) rfl rfl) rfl ⟨by rw [HM.out, HE.out]; rfl, below_row hb2 (Nat.le_refl _) _⟩

end Go.Proofs.YtcofhjkmpkfbfaaDoor
