/-
  Package line: a word by its sign: a tenant's or a target's name, a number, bytes.
-/
import Derived.Test.YtcofhjkmpkfbfaaDoorLine1
namespace Go.Proofs.YtcofhjkmpkfbfaaDoor
open Go.RowKit
set_option linter.unusedVariables false

/-- Whether a text may be a target's name. -/
def inHost (r : Nat) : Bool := inTen r || decide (r = 46) || decide (r = 58)
theorem inHost_high (r : Nat) (h : 128 ≤ r) : inHost r = false := by
  unfold inHost
  rw [inTen_high r h, decide_eq_false (by omega), decide_eq_false (by omega)]
  rfl
def targetL (l : List UInt8) : Bool := decide (l.length ≤ 24) && madeL inTen inHost l
theorem inTarget_any : Asks 22 inHost := by
  intro r w
  have HL := Lib.hid (fun W => inTenant_any r W)
  have g1 : ((r : Int) == 46) = decide (r = 46) := by
    by_cases h : r = 46
    · subst h; rfl
    · rw [decide_eq_false h, beq_eq_false_iff_ne]; omega
  have g2 : ((r : Int) == 58) = decide (r = 58) := by
    by_cases h : r = 58
    · subst h; rfl
    · rw [decide_eq_false h, beq_eq_false_iff_ne]; omega
  have hF : inHost r = (inTen r || decide (r = 46) || decide (r = 58)) := rfl
  obtain ⟨l, hl⟩ : ∃ b, inTen r = b := ⟨_, rfl⟩
  obtain ⟨d, hd⟩ : ∃ b, decide (r = 46) = b := ⟨_, rfl⟩
  obtain ⟨q, hq⟩ : ∃ b, decide (r = 58) = b := ⟨_, rfl⟩
  rw [hl, hd, hq] at hF
  rw [hl] at HL
  rw [hd] at g1
  rw [hq] at g2
  have HF := Lib.hid hF
  clear hl hd hq hF
  cases l <;> cases d
  all_goals
    go_enter Tryd.func22, Tryd.ntmps22
    go_wp2_with (first | (go_at_call 21; refine (HL.out _).mono ?_; rintro e' w1 ⟨rfl, rfl⟩))
    go_ret
    exact ⟨by rw [HF.out]; rfl, rfl⟩
theorem target_any (s : ByteArray) (w : World) (hs : s.size ≤ maxLen) : Calls Tryd.prog 15 #[.string s] w fun e w' => e = .returned (.bool (targetL (bl s))) ∧ Below w.heap.size w w' := by
  have HC := Lib.hid (fun W => made_any 21 22 inTen inHost inTenant_any inTarget_any (enters_of Tryd.func21 (by kernel_rfl) rfl) (enters_of Tryd.func22 (by kernel_rfl) rfl) inHost_high s W hs)
  have hF : targetL (bl s) = (decide (s.size ≤ 24) && madeL inTen inHost (bl s)) := by unfold targetL; rw [bl_length]
  obtain ⟨m, hm⟩ : ∃ m, madeL inTen inHost (bl s) = m := ⟨_, rfl⟩
  rw [hm] at hF HC
  clear hm
  by_cases h : s.size ≤ 24
  · have HF : Hid (targetL (bl s) = m) := by show _ = _; rw [hF, decide_eq_true h, Bool.true_and]
    have g1 : decide ((s.size : Int) ≤ 24) = true := by rw [decide_eq_true_iff]; omega
    clear hF h
    go_enter Tryd.func15, Tryd.ntmps15
    go_wp2_with fail
    refine (HC.out _).mono ?_
    rintro e' w1 ⟨rfl, pos, rfl⟩
    go_wp2_with fail
    go_ret
    exact ⟨by rw [HF.out]; rfl, iter_below _ _ _⟩
  · have HF : Hid (targetL (bl s) = false) := by show _ = _; rw [hF, decide_eq_false h, Bool.false_and]
    have g1 : decide ((s.size : Int) ≤ 24) = false := by rw [decide_eq_false_iff_not]; omega
    clear hF h
    go_enter Tryd.func15, Tryd.ntmps15
    go_wp2_with fail
    go_ret
    exact ⟨by rw [HF.out]; rfl, Below.refl _ _⟩

/-- What a field is. -/
structure Fld where
  text : List UInt8
  num : Nat
  data : List UInt8
/-- What a word is by its sign, and what is wrong with it. -/
def nameF (l : List UInt8) (is : Bool) : Fld × Int := (⟨if is then l else [], 0, []⟩, if is then 0 else 2)
def numF (l : List UInt8) (m : Nat) : Fld × Int := (⟨[], mostV l m, []⟩, mostE l m)
def readF (r : Nat) (l : List UInt8) : Fld × Int :=
  if r = 116 then nameF l (tenantL l) else if r = 104 then nameF l (targetL l) else if r = 110 then numF l 18446744073709551615 else if r = 115 then numF l 2147483647 else (⟨[], 0, bytesV l⟩, bytesE l)
/-- These are a field's cells. -/
def IsFld (w : World) (f : Fld) (x y z : Value) : Prop :=
  ∃ T A n c, x = .string T ∧ y = .int .u64 (f.num : Int) ∧ z = .slice A n c ∧ bl T = f.text ∧ Hid (f.data.length = n) ∧ n ≤ c ∧ c ≤ maxLen ∧ Bs w w.heap.size A f.data
theorem IsFld.below {w w' : World} {f : Fld} {x y z : Value} (h : IsFld w f x y z) (hb : Below w.heap.size w w') : IsFld w' f x y z := by
  obtain ⟨T, A, n, c, h1, h2, h3, h4, h5, h6, h7, h8⟩ := h
  exact ⟨T, A, n, c, h1, h2, h3, h4, h5, h6, h7, (h8.below hb (Nat.le_refl _)).more hb.size⟩
theorem IsFld.plain (w : World) (T : ByteArray) (m : Nat) (l : List UInt8) (h : bl T = l) : IsFld w ⟨l, m, []⟩ (.string T) (.int .u64 (m : Int)) (.slice none 0 0) :=
  ⟨T, none, 0, 0, rfl, rfl, rfl, h, Lib.hid rfl, Nat.le_refl _, Nat.zero_le _, .inl rfl⟩
theorem IsFld.one {w : World} {f : Fld} {x y z : Value} (h : IsFld w f x y z) : ∀ v ∈ [x, y, z], v.oneCell' = true := by
  obtain ⟨T, A, n, c, rfl, rfl, rfl, _⟩ := h
  simp [Value.oneCell']
/-- A call's answer: a field, and what is wrong. -/
def RetF (r : Fld × Int) (w : World) (e : Ending) (w' : World) : Prop :=
  ∃ x y z, e = .returned (.tuple #[.agg #[x, y, z], .int .i64 r.2]) ∧ IsFld w' r.1 x y z ∧ Below w.heap.size w w'

theorem text_is (s : ByteArray) (is : Bool) : ∃ T x, bl T = (nameF (bl s) is).1.text ∧ (x : Int) = (nameF (bl s) is).2 ∧ ∀ w, Calls Tryd.prog 13 #[.string s, .bool is] w fun e w' =>
    e = .returned (.tuple #[.agg #[.string T, .int .u64 0, .slice none 0 0], .int .i64 x]) ∧ Below w.heap.size w w' :=
  ⟨_, _, by cases is <;> rfl, rfl, fun w => text_any s is w⟩

theorem read_t (s : ByteArray) (w : World) (hs : s.size ≤ 65536) : Calls Tryd.prog 10 #[.int .i32 116, .string s] w (RetF (nameF (bl s) (tenantL (bl s))) w) := by
  have HT := Lib.hid (fun W => tenant_any s W (by unfold maxLen; omega))
  obtain ⟨is, his⟩ : ∃ is, tenantL (bl s) = is := ⟨_, rfl⟩
  rw [his] at HT ⊢
  clear his
  obtain ⟨T, x, hT, hx, hX⟩ := text_is s is
  have HX := Lib.hid hX
  have HF := Lib.hid hT
  have HE := Lib.hid hx
  clear hT hx hX
  go_enter Tryd.func10, Tryd.ntmps10
  go_wp2_with fail
  refine (HT.out _).mono ?_
  rintro e w1 ⟨rfl, hb⟩
  go_wp2_with fail
  refine (HX.out _).mono ?_
  rintro e w2 ⟨rfl, hb1⟩
  have hb2 := hb.trans (hb1.mono hb.size)
  have HB := Lib.hid (heap_under hb2)
  have hb3 := below_under hb2
  clear hb hb1 hb2
  go_wp2_with (first | (refine fld_store (by rfl) (.tmp 4) (.tmp 15) (by rfl) (by rfl) HB.out (by rfl) (by simp [Value.oneCell']) ?_))
  refine bodyPost_ret (ret_field rfl _ _ _ _ _ _ _ _ (heap_row HB.out _ _ _) rfl rfl) rfl ⟨_, _, _, by rw [← HE.out]; rfl, ?_, below_row hb3 (Nat.le_refl _) _⟩
  exact IsFld.plain _ _ 0 _ HF.out

theorem read_h (s : ByteArray) (w : World) (hs : s.size ≤ 65536) : Calls Tryd.prog 10 #[.int .i32 104, .string s] w (RetF (nameF (bl s) (targetL (bl s))) w) := by
  have HT := Lib.hid (fun W => target_any s W (by unfold maxLen; omega))
  obtain ⟨is, his⟩ : ∃ is, targetL (bl s) = is := ⟨_, rfl⟩
  rw [his] at HT ⊢
  clear his
  obtain ⟨T, x, hT, hx, hX⟩ := text_is s is
  have HX := Lib.hid hX
  have HF := Lib.hid hT
  have HE := Lib.hid hx
  clear hT hx hX
  go_enter Tryd.func10, Tryd.ntmps10
  go_wp2_with fail
  refine (HT.out _).mono ?_
  rintro e w1 ⟨rfl, hb⟩
  go_wp2_with fail
  refine (HX.out _).mono ?_
  rintro e w2 ⟨rfl, hb1⟩
  have hb2 := hb.trans (hb1.mono hb.size)
  have HB := Lib.hid (heap_under hb2)
  have hb3 := below_under hb2
  clear hb hb1 hb2
  go_wp2_with (first | (refine fld_store (by rfl) (.tmp 4) (.tmp 23) (by rfl) (by rfl) HB.out (by rfl) (by simp [Value.oneCell']) ?_))
  refine bodyPost_ret (ret_field rfl _ _ _ _ _ _ _ _ (heap_row HB.out _ _ _) rfl rfl) rfl ⟨_, _, _, by rw [← HE.out]; rfl, ?_, below_row hb3 (Nat.le_refl _) _⟩
  exact IsFld.plain _ _ 0 _ HF.out

theorem read_n (s : ByteArray) (w : World) (hs : s.size ≤ 65536) (hO : Over w) : Calls Tryd.prog 10 #[.int .i32 110, .string s] w (RetF (numF (bl s) 18446744073709551615) w) := by
  obtain ⟨m, hm⟩ : ∃ m : Nat, m = 18446744073709551615 := ⟨_, rfl⟩
  have hC := fun W (h : Over W) => count_any s m W hs h
  have hF : numF (bl s) 18446744073709551615 = (⟨[], mostV (bl s) m, []⟩, mostE (bl s) m) := by rw [hm]; rfl
  rw [hF]
  obtain ⟨v, hv⟩ : ∃ v, mostV (bl s) m = v := ⟨_, rfl⟩
  obtain ⟨x, hx⟩ : ∃ v, mostE (bl s) m = v := ⟨_, rfl⟩
  rw [hv, hx] at hC ⊢
  rw [show (m : Int) = 18446744073709551615 from by rw [hm]; rfl] at hC
  have HC := Lib.hid hC
  have hO1 := fun o => hO.stay ((Below.refl w.heap.size w).alloc (Nat.le_refl _) o)
  clear hF hv hx hC hm
  go_enter Tryd.func10, Tryd.ntmps10
  go_wp2_with fail
  refine (HC.out _ (hO1 _)).mono ?_
  rintro e w1 ⟨rfl, hb⟩
  have HB := Lib.hid (heap_under hb)
  have hb3 := below_under hb
  clear hb hO1
  go_wp2_with (first | (refine fld_store (by rfl) (.tmp 4) (.tmp 29) (by rfl) (by rfl) HB.out (by rfl) (by simp [Value.oneCell']) ?_))
  refine bodyPost_ret (ret_field rfl _ _ _ _ _ _ _ _ (heap_row HB.out _ _ _) rfl rfl) rfl ⟨_, _, _, by rfl, ?_, below_row hb3 (Nat.le_refl _) _⟩
  exact IsFld.plain _ _ _ _ rfl

theorem read_s (s : ByteArray) (w : World) (hs : s.size ≤ 65536) (hO : Over w) : Calls Tryd.prog 10 #[.int .i32 115, .string s] w (RetF (numF (bl s) 2147483647) w) := by
  obtain ⟨m, hm⟩ : ∃ m : Nat, m = 2147483647 := ⟨_, rfl⟩
  have hC := fun W (h : Over W) => count_any s m W hs h
  have hF : numF (bl s) 2147483647 = (⟨[], mostV (bl s) m, []⟩, mostE (bl s) m) := by rw [hm]; rfl
  rw [hF]
  obtain ⟨v, hv⟩ : ∃ v, mostV (bl s) m = v := ⟨_, rfl⟩
  obtain ⟨x, hx⟩ : ∃ v, mostE (bl s) m = v := ⟨_, rfl⟩
  rw [hv, hx] at hC ⊢
  rw [show (m : Int) = 2147483647 from by rw [hm]; rfl] at hC
  have HC := Lib.hid hC
  have hO1 := fun o => hO.stay ((Below.refl w.heap.size w).alloc (Nat.le_refl _) o)
  clear hF hv hx hC hm
  go_enter Tryd.func10, Tryd.ntmps10
  go_wp2_with fail
  refine (HC.out _ (hO1 _)).mono ?_
  rintro e w1 ⟨rfl, hb⟩
  have HB := Lib.hid (heap_under hb)
  have hb3 := below_under hb
  clear hb hO1
  go_wp2_with (first | (refine fld_store (by rfl) (.tmp 4) (.tmp 35) (by rfl) (by rfl) HB.out (by rfl) (by simp [Value.oneCell']) ?_))
  refine bodyPost_ret (ret_field rfl _ _ _ _ _ _ _ _ (heap_row HB.out _ _ _) rfl rfl) rfl ⟨_, _, _, by rfl, ?_, below_row hb3 (Nat.le_refl _) _⟩
  exact IsFld.plain _ _ _ _ rfl

/-- Bytes lie in no block of texts, numbers of 64 bits and slices. -/
theorem bs_row {w : World} {g B : Nat} {t' : TypeId} {T : ByteArray} {m : Int} {A0 A : Option Addr} {n0 c0 : Nat} {l : List UInt8} (hg : w.heap[g]? = some (.cells #[.string T, .int .u64 m, .slice A0 n0 c0] t' (0, 0))) (h : Bs w B A l) (cs : Array Value) : Bs (w.setRow g cs) B A l := by
  rcases h with h | ⟨b, o, rfl, hb, hc⟩
  · exact .inl h
  · rcases Nat.eq_zero_or_pos (l.map bv).length with h0 | h0
    · exact .inl (List.eq_nil_of_length_eq_zero h0)
    · refine .inr ⟨b, o, rfl, hb, fun j hj => ?_⟩
      have hne : b ≠ g := by
        rintro rfl
        have h1 := hc 0 h0
        rw [cell_of_row w b (o + 0) _ t' (0, 0) hg, List.getElem_map] at h1
        match o, h1 with
        | 0, h1 => simp [bv] at h1
        | 1, h1 => simp [bv] at h1
        | 2, h1 => simp [bv] at h1
        | k + 3, h1 => simp at h1
      rw [← hc j hj]
      exact World.cell?_of_block (setRow_other w g b cs hne)

theorem read_b (s : ByteArray) (w : World) (hs : s.size ≤ 65536) : Calls Tryd.prog 10 #[.int .i32 98, .string s] w (RetF (⟨[], 0, bytesV (bl s)⟩, bytesE (bl s)) w) := by
  have HC := Lib.hid (fun W => nbytes_any s W hs)
  obtain ⟨v, hv⟩ : ∃ v, bytesV (bl s) = v := ⟨_, rfl⟩
  obtain ⟨x, hx⟩ : ∃ v, bytesE (bl s) = v := ⟨_, rfl⟩
  rw [hv, hx] at HC ⊢
  clear hv hx
  go_enter Tryd.func10, Tryd.ntmps10
  go_wp2_with fail
  refine (HC.out _).mono ?_
  rintro e w1 ⟨A, n, c, rfl, hn, hnc, hcm, hv, hb⟩
  have HB := Lib.hid (heap_under hb)
  have hb3 := below_under hb
  have HV : Hid (Bs (w1.setRow w.heap.size #[.string ⟨#[]⟩, .int .u64 0, .slice A n c]) (w1.setRow w.heap.size #[.string ⟨#[]⟩, .int .u64 0, .slice A n c]).heap.size A v) := by
    show Bs _ _ _ _
    refine Bs.more (bs_row HB.out hv _) ?_
    simp
  clear hb hv
  go_wp2_with (first | (refine fld_store (by rfl) (.tmp 4) (.tmp 43) (by rfl) (by rfl) HB.out (by rfl) (by simp [Value.oneCell']) ?_))
  exact bodyPost_ret (ret_field rfl _ _ _ _ _ _ _ _ (heap_row HB.out _ _ _) rfl rfl) rfl ⟨_, _, _, by rfl, ⟨_, A, n, c, rfl, rfl, rfl, rfl, hn, hnc, hcm, HV.out⟩, below_row hb3 (Nat.le_refl _) _⟩

/-- What a word is by its sign. -/
theorem read_any (r : Nat) (hr : isSign r = true) (s : ByteArray) (w : World) (hs : s.size ≤ 65536) (hO : Over w) : Calls Tryd.prog 10 #[.int .i32 (r : Int), .string s] w (RetF (readF r (bl s)) w) := by
  rcases isSign_cases hr with rfl | rfl | rfl | rfl | rfl
  · exact read_t s w hs
  · exact read_h s w hs
  · exact read_n s w hs hO
  · exact read_b s w hs
  · exact read_s s w hs hO
end Go.Proofs.YtcofhjkmpkfbfaaDoor
