/-
  Package name: tenants' names; bytes of digits.
-/
import Derived.Test.YtcofhjkmpkfbfaaDoorName1
import Derived.Test.YtcofhjkmpkfbfaaDoorHexN
import Derived.Test.YtcofhjkmpkfbfaaDoorBlk
import Derived.Test.YtcofhjkmpkfbfaaDoorRef01
import Derived.Lib.OthersKept
import Derived.StillTailTactics
namespace Go.Proofs.YtcofhjkmpkfbfaaDoor
open Go.RowKit
set_option linter.unusedVariables false

theorem iter_below (w : World) (s : ByteArray) (pos : Nat) : Below w.heap.size w (w.iter s pos) := (Below.refl _ _).alloc (Nat.le_refl _) _

/-- Whether a text may be a tenant's name. -/
def tenantL (l : List UInt8) : Bool := decide (l.length ≤ 16) && madeL isLetter inTen l
theorem inTen_high (r : Nat) (h : 128 ≤ r) : inTen r = false := by
  unfold inTen isLetter isDigit
  rw [decide_eq_false (by omega), decide_eq_false (by omega), decide_eq_false (by omega)]
  rfl
theorem isHexd_high (r : Nat) (h : 128 ≤ r) : isHexd r = false := by
  unfold isHexd isDigit
  rw [decide_eq_false (by omega), decide_eq_false (by omega)]
  rfl
theorem isDigit_high (r : Nat) (h : 128 ≤ r) : isDigit r = false := by
  unfold isDigit
  rw [decide_eq_false (by omega)]
theorem tenant_any (s : ByteArray) (w : World) (hs : s.size ≤ maxLen) : Calls Tryd.prog 14 #[.string s] w fun e w' => e = .returned (.bool (tenantL (bl s))) ∧ Below w.heap.size w w' := by
  have HC := Lib.hid (fun W => made_any 20 21 isLetter inTen letter_any inTenant_any (enters_of Tryd.func20 (by kernel_rfl) rfl) (enters_of Tryd.func21 (by kernel_rfl) rfl) inTen_high s W hs)
  have hF : tenantL (bl s) = (decide (s.size ≤ 16) && madeL isLetter inTen (bl s)) := by unfold tenantL; rw [bl_length]
  obtain ⟨m, hm⟩ : ∃ m, madeL isLetter inTen (bl s) = m := ⟨_, rfl⟩
  rw [hm] at hF HC
  clear hm
  by_cases h : s.size ≤ 16
  · have HF : Hid (tenantL (bl s) = m) := by show _ = _; rw [hF, decide_eq_true h, Bool.true_and]
    have g1 : decide ((s.size : Int) ≤ 16) = true := by rw [decide_eq_true_iff]; omega
    clear hF h
    go_enter Tryd.func14, Tryd.ntmps14
    go_wp2_with fail
    refine (HC.out _).mono ?_
    rintro e' w1 ⟨rfl, pos, rfl⟩
    go_wp2_with fail
    go_ret
    exact ⟨by rw [HF.out]; rfl, iter_below _ _ _⟩
  · have HF : Hid (tenantL (bl s) = false) := by show _ = _; rw [hF, decide_eq_false h, Bool.false_and]
    have g1 : decide ((s.size : Int) ≤ 16) = false := by rw [decide_eq_false_iff_not]; omega
    clear hF h
    go_enter Tryd.func14, Tryd.ntmps14
    go_wp2_with fail
    go_ret
    exact ⟨by rw [HF.out]; rfl, Below.refl _ _⟩

theorem half_any (r : Nat) (w : World) (hr : isHexd r = true) : Calls Tryd.prog 25 #[.int .i32 (r : Int)] w fun e w' => e = .returned (.int .u8 (nib r : Int)) ∧ w = w' := by
  have HD := Lib.hid (fun W => digit_any r W)
  unfold isHexd at hr
  cases hd : isDigit r with
  | true =>
    have HF : Hid (nib r = r - 48) := by show _ = _; unfold nib; rw [hd]; rfl
    rw [hd] at HD
    unfold isDigit at hd
    rw [decide_eq_true_iff] at hd
    have h1 : IntKind.i32.wrap ((r : Int) - 48) = (r : Int) - 48 := by rw [IntKind.wrap_i32]; omega
    have h2 : IntKind.u8.wrap ((r : Int) - 48) = (r : Int) - 48 := by rw [IntKind.wrap_u8]; omega
    have HV : Hid ((r : Int) - 48 = ((r - 48 : Nat) : Int)) := by show _ = _; omega
    clear hr
    go_enter Tryd.func25, Tryd.ntmps25
    go_wp2_with (first | (go_at_call 29; refine (HD.out _).mono ?_; rintro e' w1 ⟨rfl, rfl⟩))
    go_ret
    exact ⟨by rw [HF.out, HV.out]; rfl, rfl⟩
  | false =>
    have HF : Hid (nib r = r - 87) := by show _ = _; unfold nib; rw [hd]; rfl
    rw [hd, Bool.false_or, decide_eq_true_iff] at hr
    rw [hd] at HD
    have h1 : IntKind.i32.wrap ((r : Int) - 97) = (r : Int) - 97 := by rw [IntKind.wrap_i32]; omega
    have h3 : IntKind.i32.wrap ((r : Int) - 97 + 10) = (r : Int) - 97 + 10 := by rw [IntKind.wrap_i32]; omega
    have h2 : IntKind.u8.wrap ((r : Int) - 97 + 10) = (r : Int) - 97 + 10 := by rw [IntKind.wrap_u8]; omega
    have HV : Hid ((r : Int) - 97 + 10 = ((r - 87 : Nat) : Int)) := by show _ = _; omega
    clear hd
    go_enter Tryd.func25, Tryd.ntmps25
    go_wp2_with (first | (go_at_call 29; refine (HD.out _).mono ?_; rintro e' w1 ⟨rfl, rfl⟩))
    go_ret
    exact ⟨by rw [HF.out, HV.out]; rfl, rfl⟩
/-! ### the bytes of which a text is the digits -/
def n8 (x : Nat) : Value := .int .u8 (x : Int)
theorem n8_set {w : World} {g : Nat} {t : TypeId} {os : List Nat} (h : Bk w g t (os.map n8)) (i v : Nat) : Bk (w.setCell ⟨g, i, none⟩ (.int .u8 (v : Int))) g t ((os.set i v).map n8) := by
  rw [List.map_set]
  exact h.set_ i (n8 v)
theorem n8_cell {w : World} {g : Nat} {t : TypeId} {os : List Nat} (h : Bk w g t (os.map n8)) (i : Nat) (hi : i < os.length) : w.cell? ⟨g, i, none⟩ = some (.int .u8 (os[i] : Int)) := by
  rw [h.cellAt i (by rw [List.length_map]; exact hi), List.getElem_map]
  rfl
theorem n8_bv (os : List Nat) (h : ∀ x ∈ os, x < 256) : os.map n8 = (os.map UInt8.ofNat).map bv := by
  rw [List.map_map]
  apply List.map_congr_left
  intro x hx
  have := h x hx
  show Value.int .u8 (x : Int) = Value.int .u8 ((UInt8.ofNat x).toNat : Int)
  rw [UInt8.toNat_ofNat', Nat.mod_eq_of_lt (by omega)]
theorem Bk.iterAt {w : World} {g : Nat} {t : TypeId} {vs : List Value} (h : Bk w g t vs) {k : Nat} (hk : g ≠ k) (s : ByteArray) (pos : Nat) : Bk (w.iterAt k s pos) g t vs := (Lib.iterAt_other w k g s pos hk).trans h

theorem quiet_same {P : Program} {f : FuncId} {args : Array Value} {w : World} {v : Value} (h : Calls P f args w fun e w' => e = .returned v ∧ w = w') : Calls P f args w fun e w'' => e = .returned v ∧ w'' = w :=
  h.mono fun _ _ ⟨a, b⟩ => ⟨a, b.symm⟩
theorem iterPos_of {w : World} {k : Nat} {s : ByteArray} {p : Nat} (h : w.heap[k]? = some (.stringIter s p)) : w.iterPos k = p := by simp [World.iterPos, h]
/-- Bytes, and what is wrong with their digits. -/
def RetB (l : List UInt8) (e : Int) (w : World) (x : Ending) (w' : World) : Prop :=
  ∃ A n c, x = .returned (.tuple #[.slice A n c, .int .i64 e]) ∧ Hid (l.length = n) ∧ n ≤ c ∧ c ≤ maxLen ∧ Bs w' w'.heap.size A l ∧ Below w.heap.size w w'
theorem made_hexd (l : List UInt8) : madeL isHexd isHexd l = (decide (0 < l.length) && onlyL l hexS) := by
  rw [only_hexS]
  cases l with
  | nil => rfl
  | cons c t => simp [madeL]

set_option maxRecDepth 100000 in
set_option maxHeartbeats 1600000 in
theorem nbytes_any (s : ByteArray) (w : World) (hs : s.size ≤ 65536) : Calls Tryd.prog 17 #[.string s] w (RetB (bytesV (bl s)) (bytesE (bl s)) w) := by
  have HC := Lib.hid (fun W => made_any 24 24 isHexd isHexd hexDigit_any hexDigit_any (enters_of Tryd.func24 (by kernel_rfl) rfl) (enters_of Tryd.func24 (by kernel_rfl) rfl) isHexd_high s W (by unfold maxLen; omega))
  have hlen := bl_length s
  cases h1 : s.toList == [45] with
  | true =>
    have hl : bl s = [45] := by rw [← bl_toList]; exact eq_of_beq h1
    have HV : Hid (bytesV (bl s) = []) := by show _ = _; rw [hl]; rfl
    have HE : Hid (bytesE (bl s) = 0) := by show _ = _; rw [hl]; rfl
    clear HC hlen hl
    go_enter Tryd.func17, Tryd.ntmps17
    go_wp2_with fail
    go_ret2
    exact ⟨none, 0, 0, by rw [HE.out]; rfl, Lib.hid (by rw [HV.out]; rfl), Nat.le_refl _, Nat.zero_le _, by rw [HV.out]; exact Bs.nil _ _ _, Below.refl _ _⟩
  | false =>
    have hl : bl s ≠ [45] := by rw [← bl_toList]; exact ne_of_beq_false h1
    have hx : hexesL (bl s) = (decide (s.size % 2 = 0) && madeL isHexd isHexd (bl s)) := by
      unfold hexesL
      rw [beq_eq_false_iff_ne.2 hl, Bool.false_or, made_hexd, hlen]
      cases decide (0 < s.size) <;> cases decide (s.size % 2 = 0) <;> rfl
    by_cases h2 : s.size % 2 = 0
    · have h3 : ((s.size : Int) % 2 != 0) = false := by rw [bne_eq_false_iff_eq]; omega
      have h3' : ((s.size : Int).tmod 2 != 0) = false := by rw [Int.tmod_eq_emod_of_nonneg (by omega)]; exact h3
      rw [decide_eq_true h2, Bool.true_and] at hx
      cases hm : madeL isHexd isHexd (bl s) with
      | false =>
        rw [hm] at hx HC
        have HV : Hid (bytesV (bl s) = []) := by show _ = _; unfold bytesV; rw [if_neg hl, hx]; rfl
        have HE : Hid (bytesE (bl s) = 2) := by show _ = _; unfold bytesE; rw [hx]; rfl
        clear hx hm hl hlen
        go_enter Tryd.func17, Tryd.ntmps17
        go_wp2_with fail
        refine (HC.out _).mono ?_
        rintro e' w1 ⟨rfl, pos, rfl⟩
        go_wp2_with fail
        go_ret2
        exact ⟨none, 0, 0, by rw [HE.out]; rfl, Lib.hid (by rw [HV.out]; rfl), Nat.le_refl _, Nat.zero_le _, by rw [HV.out]; exact Bs.nil _ _ _, iter_below _ _ _⟩
      | true =>
        rw [hm] at hx HC
        have HV : Hid (bytesV (bl s) = unhexL (bl s)) := by show _ = _; unfold bytesV; rw [if_neg hl, hx]; rfl
        have HE : Hid (bytesE (bl s) = 0) := by show _ = _; unfold bytesE; rw [hx]; rfl
        rw [made_hexd, Bool.and_eq_true, decide_eq_true_iff, only_hexS, List.all_eq_true, hlen] at hm
        have HX := Lib.hid hm.2
        have h0 := hm.1
        obtain ⟨n, hn⟩ : ∃ n, s.size / 2 = n := ⟨_, rfl⟩
        have HN := Lib.hid hn
        have d1 : (s.size : Int) / 2 = (n : Int) := by omega
        have d2 : (s.size : Int).tdiv 2 = (n : Int) := by rw [Int.tdiv_eq_ediv_of_nonneg (by omega)]; exact d1
        have HMK := Lib.hid (fun W => make_row u8E rfl W n (n : Int) rfl (by omega) (by omega))
        clear hx hm hl hlen
        go_enter Tryd.func17, Tryd.ntmps17
        go_wp2_with fail
        refine (HC.out _).mono ?_
        rintro e' w1 ⟨rfl, pos, rfl⟩
        obtain ⟨W1, hW1⟩ : ∃ W1, w.iter s pos = W1 := ⟨_, rfl⟩
        have hb1 : Below w.heap.size w W1 := by rw [← hW1]; exact iter_below _ _ _
        have hmk := HMK.out W1
        rw [hW1]
        obtain ⟨W2, hW2⟩ : ∃ W2, W1.alloc (.cells (List.replicate n (Value.int .u8 0)).toArray 5) = W2 := ⟨_, rfl⟩
        have hO : Bk W2 W1.heap.size 5 ((valL (bl s) n 0).map n8) := by rw [← hW2, valL_zero]; exact Bk.newL _ _ _ _ (by simp [n8])
        have hb2 : Below w.heap.size w W2 := by rw [← hW2]; exact hb1.alloc hb1.size _
        have HSZ : Hid (W2.heap.size = W1.heap.size + 1) := by show _ = _; rw [← hW2]; simp
        rw [hW2] at hmk
        clear hW1 hW2
        go_wp2_with fail
        go_loopw [5, 6] (fun _ _ wr => ∃ p : Nat, p ≤ s.size ∧ wr.heap[W2.heap.size]? = some (.stringIter s p) ∧ Bk wr W1.heap.size 5 ((valL (bl s) n p).map n8) ∧ Below w.heap.size w wr) (fun _ _ wr => s.size - wr.iterPos W2.heap.size)
        case atStart => exact ⟨0, Nat.zero_le _, World.iter_heap _ _ _, hO.alloc _, hb2.alloc hb2.size _⟩
        case round =>
          clear hO hb2 hmk
          obtain ⟨p, hp, hit, hO, hb⟩ := hrel
          by_cases hlt : p < s.size
          · have hx : isHexd s[p].toNat = true := by
              rw [← bl_at s p hlt]
              exact HX.out _ (List.getElem_mem _)
            have ha : s[p].toNat < 128 := by
              rcases Nat.lt_or_ge s[p].toNat 128 with h | h
              · exact h
              · rw [isHexd_high _ h] at hx; cases hx
            have hnx : ∀ ty, (Instr.next (.pointer (some ⟨W2.heap.size, 0, none⟩)) true ty).run Tryd.prog wr = _ := fun ty => Lib.run_next_ascii_at wr W2.heap.size s p ty hit hlt ha
            have HP := Lib.hid (iterPos_of hit)
            have hit2 := Lib.iterAt_heap wr W2.heap.size s p (p + 1) hit
            have hO1 := hO.iterAt (k := W2.heap.size) (by have := HSZ.out; omega) s (p + 1)
            have hb1' := Lib.below_iterAt hb (k := W2.heap.size) (by have := hb1.size; have := HSZ.out; omega) s (p + 1)
            obtain ⟨V, hV⟩ : ∃ V, wr.iterAt W2.heap.size s (p + 1) = V := ⟨_, rfl⟩
            rw [hV] at hnx hit2 hO1 hb1'
            clear hV hO hb hit
            have hpn : p / 2 < n := by have := HN.out; omega
            have hpl : p / 2 < (valL (bl s) n p).length := by rw [valL_length]; exact hpn
            have hc := n8_cell hO1 (p / 2) hpl
            rw [valL_at _ _ _ _ hpn] at hc
            have hfr := hO1.frozen (p / 2)
            have hv16 : valB (bl s) p (p / 2) < 16 := by
              rw [valB_half]
              split
              · omega
              · rw [List.getD_eq_getElem?_getD, List.getElem?_eq_getElem (by rw [bl_length]; omega)]
                exact nib_lt (HX.out _ (List.getElem_mem _))
            have hnib := nib_lt hx
            have hstep := valL_next (bl s) n p (16 * valB (bl s) p (p / 2) + nib s[p].toNat) (by rw [List.getD_eq_getElem?_getD, List.getElem?_eq_getElem (by rw [bl_length]; exact hlt), bl_at s p hlt]; rfl)
            have hO2 := n8_set hO1 (p / 2) (16 * valB (bl s) p (p / 2) + nib s[p].toNat)
            rw [hstep] at hO2
            have hb2 := hb1'.setCell (p := ⟨W1.heap.size, p / 2, none⟩) (by have := hb1.size; simp; omega) (.int .u8 ((16 * valB (bl s) p (p / 2) + nib s[p].toNat : Nat) : Int))
            have hit3 : (V.setCell ⟨W1.heap.size, p / 2, none⟩ (.int .u8 ((16 * valB (bl s) p (p / 2) + nib s[p].toNat : Nat) : Int))).heap[W2.heap.size]? = some (.stringIter s (p + 1)) := (heap_setCell_other V ⟨W1.heap.size, p / 2, none⟩ W2.heap.size _ (by have := HSZ.out; simp; omega)).trans hit2
            have HH := Lib.hid (fun W => half_any s[p].toNat W hx)
            obtain ⟨v, hv⟩ : ∃ v, valB (bl s) p (p / 2) = v := ⟨_, rfl⟩
            obtain ⟨b, hb⟩ : ∃ b, nib s[p].toNat = b := ⟨_, rfl⟩
            rw [hv] at hc hv16 hO2 hb2 hit3
            rw [hb] at HH hnib hO2 hb2 hit3
            have hor := or_half v b hv16 hnib
            obtain ⟨q, hq⟩ : ∃ q, p / 2 = q := ⟨_, rfl⟩
            have e1 : (p : Int) / 2 = (q : Int) := by omega
            have e2 : (p : Int).tdiv 2 = (q : Int) := by rw [Int.tdiv_eq_ediv_of_nonneg (by omega)]; exact e1
            rw [hq] at hc hfr hO2 hb2 hit3 hpn
            have e3 : (q : Int) < (n : Int) := by omega
            have e4 : IntKind.u8.wrap ((v : Int) * 16) = (v : Int) * 16 := by rw [IntKind.wrap_u8]; omega
            have e5 : IntKind.i64.wrap (q : Int) = (q : Int) := IntWalk.i64_in _ (by omega)
            obtain ⟨o, ho⟩ : ∃ o, 16 * v + b = o := ⟨_, rfl⟩
            rw [ho] at hor hO2 hb2 hit3
            clear hstep hO1 hb1' hit2 hv hb hq hx ha hpl ho hv16 hnib
            go_wp2_with fail
            refine wp_region_still_tail 13 (by kernel_rfl) (by kernel_rfl) ?_
            simp only [List.take_succ_cons, List.take_zero, List.drop_succ_cons, List.drop_zero]
            repeat (refine wpStill_step (fun K hK => ?_); go_simp; (first | (with_reducible refine ⟨_, quiet_same (HH.out _), hK _ ?_⟩) | refine hK _ ?_); clear hK K)
            try refine wpStill_nil ?_
            go_wp2_with fail
            go_roundw
            case rel => exact ⟨p + 1, by omega, hit3, hO2, below_drewN hb2 1⟩
            case measure =>
              show s.size - World.iterPos (V.setCell ⟨W1.heap.size, q, none⟩ (.int .u8 (o : Int))) W2.heap.size < _
              rw [iterPos_of hit3, HP.out]
              omega
          · obtain rfl : p = s.size := by omega
            have hnx : ∀ ty, (Instr.next (.pointer (some ⟨W2.heap.size, 0, none⟩)) true ty).run Tryd.prog wr = _ := fun ty => Lib.run_next_end_at wr W2.heap.size s s.size ty hit (Nat.lt_irrefl _)
            have hlt' : ∀ x ∈ valL (bl s) n s.size, x < 256 := by
              intro x hx
              unfold valL at hx
              obtain ⟨j, _, rfl⟩ := List.mem_map.1 hx
              exact valB_lt _ _ HX.out (by rw [bl_length]; exact Nat.le_refl _) j
            have hrow := hO.part 0 (valL (bl s) n s.size).length
            rw [List.drop_zero, List.take_of_length_le (by simp), n8_bv _ hlt'] at hrow
            have hun : (valL (bl s) n s.size).map UInt8.ofNat = unhexL (bl s) := by unfold unhexL; rw [bl_length, HN.out]
            rw [hun] at hrow
            have HROW : Hid (Bs wr wr.heap.size (some ⟨W1.heap.size, 0, none⟩) (unhexL (bl s))) := hrow
            clear hrow hun hlt' hO hit
            go_wp2_with fail
            go_ret2
            exact ⟨_, n, n, by rw [HE.out]; rfl, by rw [HV.out]; exact Lib.hid (by rw [unhex_length, bl_length]; exact HN.out), Nat.le_refl _, by unfold maxLen; omega, by rw [HV.out]; exact HROW.out, hb⟩
    · have h3 : ((s.size : Int) % 2 != 0) = true := by rw [bne_iff_ne]; omega
      have h3' : ((s.size : Int).tmod 2 != 0) = true := by rw [Int.tmod_eq_emod_of_nonneg (by omega)]; exact h3
      rw [decide_eq_false h2, Bool.false_and] at hx
      have HV : Hid (bytesV (bl s) = []) := by show _ = _; unfold bytesV; rw [if_neg hl, hx]; rfl
      have HE : Hid (bytesE (bl s) = 2) := by show _ = _; unfold bytesE; rw [hx]; rfl
      clear hx hl hlen
      go_enter Tryd.func17, Tryd.ntmps17
      go_wp2_with fail
      go_ret2
      exact ⟨none, 0, 0, by rw [HE.out]; rfl, Lib.hid (by rw [HV.out]; rfl), Nat.le_refl _, Nat.zero_le _, by rw [HV.out]; exact Bs.nil _ _ _, Below.refl _ _⟩
end Go.Proofs.YtcofhjkmpkfbfaaDoor
