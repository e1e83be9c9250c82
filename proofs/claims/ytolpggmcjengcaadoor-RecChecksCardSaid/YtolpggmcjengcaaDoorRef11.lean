/-
  Package taximeterref07: Tenant. Package taximeterref11: Letters, Has; package taximeterref01: Text. Package taximeterref11: Bytes (written by wip/bin/gen-XRef11b.py). Package taximeterref11: Check (written by wip/bin/gen-XRef11c.py).
-/
import Derived.Test.YtolpggmcjengcaaDoorRef9t
import Derived.Test.YtolpggmcjengcaaDoorName2
import Derived.Test.YtolpggmcjengcaaDoorRecN
import Derived.Test.YtolpggmcjengcaaDoorRef01
import Derived.Test.YtolpggmcjengcaaDoorBlk2
import Derived.Lib.AppendStr
namespace Go.Proofs.YtolpggmcjengcaaDoor
open Go.RowKit
set_option linter.unusedVariables false

def tenABC : List UInt8 := [97, 98, 99, 100, 101, 102, 103, 104, 105, 106, 107, 108, 109, 110, 111, 112, 113, 114, 115, 116, 117, 118, 119, 120, 121, 122, 48, 49, 50, 51, 52, 53, 54, 55, 56, 57, 45]
theorem tenABC_bytes (c : UInt8) : inL tenABC c = inTen c.toNat := by
  have := all_bytes (p := fun c => inL tenABC c == inTen c.toNat) (by decide +kernel) c
  simpa using this
theorem letter_bytes (c : UInt8) : isLetter c.toNat = (decide (97 ≤ c.toNat) && decide (c.toNat ≤ 122)) := by unfold isLetter; simp
theorem letter_ten (c : UInt8) (h : isLetter c.toNat = true) : inTen c.toNat = true := by unfold inTen; rw [h]; rfl
theorem tenant_ref (l : List UInt8) : tenantL l = (decide (1 ≤ l.length) && decide (l.length ≤ 16) && onlyL l tenABC && (match l with | [] => false | c :: _ => decide (97 ≤ c.toNat) && decide (c.toNat ≤ 122))) := by
  unfold tenantL madeL onlyL
  cases l with
  | nil => rfl
  | cons c t =>
    simp only [List.all_cons, tenABC_bytes, ← letter_bytes]
    rcases Bool.eq_false_or_eq_true (isLetter c.toNat) with h | h
    · rw [letter_ten c h, h]
      cases t.all (fun x => inTen x.toNat) <;> simp
    · rw [h]
      simp
theorem tenABC_bl : bl ⟨#[97, 98, 99, 100, 101, 102, 103, 104, 105, 106, 107, 108, 109, 110, 111, 112, 113, 114, 115, 116, 117, 118, 119, 120, 121, 122, 48, 49, 50, 51, 52, 53, 54, 55, 56, 57, 45]⟩ = tenABC := rfl
theorem first_bl (s : ByteArray) (h : 0 < s.size) : ∃ t, bl s = s[0] :: t := ⟨_, by have := bl_drop s 0 h; rwa [List.drop_zero] at this⟩
set_option maxRecDepth 100000 in
set_option maxHeartbeats 3200000 in
theorem rtenant_any (s : ByteArray) (w : World) (hs : s.size ≤ maxLen) : Calls Tryd.prog 20 #[.string s] w fun e w' => e = .returned (.bool (tenantL (bl s))) ∧ w = w' := by
  have HC := Lib.hid (fun W : World => only_any s ⟨#[97, 98, 99, 100, 101, 102, 103, 104, 105, 106, 107, 108, 109, 110, 111, 112, 113, 114, 115, 116, 117, 118, 119, 120, 121, 122, 48, 49, 50, 51, 52, 53, 54, 55, 56, 57, 45]⟩ W hs (by unfold maxLen; decide))
  rw [tenABC_bl] at HC
  have hT := tenant_ref (bl s)
  rw [bl_length] at hT
  by_cases h0 : 1 ≤ s.size
  · obtain ⟨t, hh⟩ := first_bl s (by omega)
    by_cases h24 : s.size ≤ 16
    · obtain ⟨o, ho⟩ : ∃ o, onlyL (bl s) tenABC = o := ⟨_, rfl⟩
      obtain ⟨c, hc⟩ : ∃ c, s[0] = c := ⟨_, rfl⟩
      have hF : tenantL (bl s) = (o && (decide (97 ≤ c.toNat) && decide (c.toNat ≤ 122))) := by
        rw [hT, ho, hh, hc]
        simp [h0, h24]
      rw [ho] at HC
      have b1 : decide ((s.size : Int) ≥ 1) = true := by rw [decide_eq_true_iff]; omega
      have b2 : decide ((s.size : Int) ≤ 16) = true := by rw [decide_eq_true_iff]; omega
      have b0 : 0 < s.size := h0
      obtain ⟨p, hp⟩ : ∃ p, decide (97 ≤ c.toNat) = p := ⟨_, rfl⟩
      obtain ⟨q, hq⟩ : ∃ q, decide (c.toNat ≤ 122) = q := ⟨_, rfl⟩
      have n1 : decide ((c.toNat : Int) ≥ 97) = p := by rw [← hp]; exact decide_eq_decide.2 (by omega)
      have n2 : decide ((c.toNat : Int) ≤ 122) = q := by rw [← hq]; exact decide_eq_decide.2 (by omega)
      have HPQ : Hid (tenantL (bl s) = (o && (p && q))) := by show _ = _; rw [hF, hp, hq]
      clear hF ho hh hT hp hq
      cases o <;> cases p <;> cases q
      all_goals
        go_enter Tryd.func20, Tryd.ntmps20
        go_wp2_with fail
        refine (HC.out _).mono ?_
        rintro e w1 ⟨rfl, rfl⟩
        go_wp2_with fail
        go_ret
        exact ⟨by rw [HPQ.out]; rfl, rfl⟩
    · have hF : tenantL (bl s) = false := by rw [hT]; simp [h24]
      have HF := Lib.hid hF
      have b1 : decide ((s.size : Int) ≥ 1) = true := by rw [decide_eq_true_iff]; omega
      have b2 : decide ((s.size : Int) ≤ 16) = false := by rw [decide_eq_false_iff_not]; omega
      clear hF hh hT
      go_enter Tryd.func20, Tryd.ntmps20
      go_wp2_with fail
      go_ret
      exact ⟨by rw [HF.out]; rfl, rfl⟩
  · have hF : tenantL (bl s) = false := by rw [hT]; simp; omega
    have HF := Lib.hid hF
    have b1 : decide ((s.size : Int) ≥ 1) = false := by rw [decide_eq_false_iff_not]; omega
    clear hF hT
    go_enter Tryd.func20, Tryd.ntmps20
    go_wp2_with fail
    go_ret
    exact ⟨by rw [HF.out]; rfl, rfl⟩
end Go.Proofs.YtolpggmcjengcaaDoor

namespace Go.Proofs.YtolpggmcjengcaaDoor
open Go.RowKit
set_option linter.unusedVariables false

set_option maxRecDepth 100000 in
set_option maxHeartbeats 1600000 in
theorem letters_any (k : Int) (w : World) : Calls Tryd.prog 22 #[.int .i64 k] w fun e w' => e = .returned (.string (letsB k)) ∧ Below w.heap.size w w' := by
  have HB : Hid (∀ x, Below w.heap.size w (w.alloc x)) := fun x => (Below.refl _ w).alloc (Nat.le_refl _) x
  by_cases h1 : 1 ≤ k
  · by_cases h5 : k ≤ 5
    · have : k = 1 ∨ k = 2 ∨ k = 3 ∨ k = 4 ∨ k = 5 := by omega
      clear h1 h5
      rcases this with rfl | rfl | rfl | rfl | rfl
      all_goals
        go_enter Tryd.func22, Tryd.ntmps22
        go_wp2_with fail
        go_ret
        exact ⟨rfl, HB.out _⟩
    · have b1 : decide (k < 1) = false := by rw [decide_eq_false_iff_not]; omega
      have b2 : decide (k > 5) = true := by rw [decide_eq_true_iff]; omega
      have HF : Hid (letsB k = ⟨#[]⟩) := by show _ = _; unfold letsB; rw [if_neg (by omega), if_neg (by omega), if_neg (by omega)]
      clear h1 h5
      go_enter Tryd.func22, Tryd.ntmps22
      go_wp2_with fail
      go_ret
      exact ⟨by rw [HF.out]; rfl, HB.out _⟩
  · have b1 : decide (k < 1) = true := by rw [decide_eq_true_iff]; omega
    have HF : Hid (letsB k = ⟨#[]⟩) := by show _ = _; unfold letsB; rw [if_neg (by omega), if_neg (by omega), if_neg (by omega)]
    clear h1
    go_enter Tryd.func22, Tryd.ntmps22
    go_wp2_with fail
    go_ret
    exact ⟨by rw [HF.out]; rfl, HB.out _⟩
theorem letsB_size (k : Int) : (letsB k).size ≤ 2 := by
  unfold letsB
  repeat' split
  all_goals decide
theorem rhas_any (k : Int) (c : UInt8) (w : World) : Calls Tryd.prog 10 #[.int .i64 k, .int .u8 (c.toNat : Int)] w fun e w' => e = .returned (.bool (hasR k c)) ∧ Below w.heap.size w w' := by
  have hs := letsB_size k
  have HF : Hid (hasR k c = inL (bl (letsB k)) c) := rfl
  have HL := Lib.hid (letters_any k w)
  go_enter Tryd.func10, Tryd.ntmps10
  go_wp2_with fail
  refine HL.out.mono ?_
  rintro e w1 ⟨rfl, hb⟩
  have HB := Lib.hid hb
  obtain ⟨s, hse⟩ : ∃ s, letsB k = s := ⟨_, rfl⟩
  rw [hse] at hs HF ⊢
  clear hse hb HL
  go_wp2_with fail
  go_loop [6] (fun x => ∃ i : Nat, i ≤ s.size ∧ x = .int .i64 i ∧ Hid (inL (bl s) c = inL ((bl s).drop i) c)) (fun x => s.size - (intOf x).toNat)
  case atStart => exact ⟨0, Nat.zero_le _, rfl, Lib.hid rfl⟩
  case round =>
    obtain ⟨i, hi, rfl, HI⟩ := hrel
    by_cases hlt : i < s.size
    · have hd := HI.out
      rw [bl_drop s i hlt] at hd
      unfold inL at hd
      rw [List.any_cons] at hd
      have hue := u8_eq s[i] c
      cases hc : s[i] == c with
      | true =>
        rw [hc] at hd hue
        have HE : Hid (inL (bl s) c = true) := hd
        clear hd hc HI
        go_wp2_with fail
        go_ret
        exact ⟨by rw [HF.out, HE.out]; rfl, HB.out⟩
      | false =>
        rw [hc] at hd hue
        have HE : Hid (inL (bl s) c = inL ((bl s).drop (i + 1)) c) := hd
        clear hd hc HI
        go_wp2_with fail
        go_round
        case rel => exact ⟨i + 1, by omega, by go_num, HE⟩
        case measure => simp [intOf]; omega
    · have hd := HI.out
      rw [bl_end s i (by omega)] at hd
      have HE : Hid (inL (bl s) c = false) := hd
      clear hd HI
      go_wp2_with fail
      go_ret
      exact ⟨by rw [HF.out, HE.out]; rfl, HB.out⟩

/-- append of a text's bytes onto a row of the call's own. -/
theorem wp_appS {P : Program} (w : World) {ops : Array Oper} {rest : List Oper} {o : Oper} {a : Act} {Q : Exit → Act → World → Prop} (hgd : o.guard = none) (sl x : Operand) (t u : TypeId)
    (ho : o.op = .call { callee := .builtin .append, args := #[sl, x], argTypes := #[t, u] })
    (base : Nat) (e : TypeId) (E : Elem P t e (.int .u8 0) 1) (hu : P.underlying u = some .string) (v : Value) (l : List UInt8) (hs : a.eval sl = v) (hown : Own w base e v (l.map bv)) (s : ByteArray) (hx : a.eval x = .string s)
    (h63 : l.length + s.size ≤ 140737488355328) (hbase : base ≤ w.heap.size)
    (h : ∀ v' w', Own w' base e v' ((l ++ bl s).map bv) → w.grownBy w' v.ownBlock → wpList P ops Q rest (a.put o.dst v') w') : wpList P ops Q (o :: rest) a w := by
  obtain ⟨ht, ⟨i, hi, hz, hsz, hby⟩, _⟩ := E
  refine Lib.wpList_append_own_string (P := P) (w := w) hgd sl x t u ho base e i ht hu hi hz hsz hby v (l.map bv).length (l.map bv) hs hown s hx ?_ ?_ hbase fun v' w' h1 h2 _ => h v' w' ?_ h2
  · rw [List.length_map]; unfold maxLen; omega
  · rw [List.length_map]; exact h63
  · unfold Own
    have e1 : (l ++ bl s).map bv = l.map bv ++ Lib.strCells s := by
      rw [List.map_append]
      rfl
    have e2 : ((l ++ bl s).map bv).length = (l.map bv).length + s.size := by simp [bl_length]
    rw [e2, e1]
    exact h1
set_option maxRecDepth 100000 in
set_option maxHeartbeats 1600000 in
/-- ref.Text -/
theorem rtext_any (k : Nat) (s : ByteArray) (w : World) (hk : k ≤ 65536) (hs : s.size ≤ 65536) : Calls Tryd.prog 29 #[.int .i64 (k : Int), .string s] w (RetO 5 (leB k s.size ++ bl s) w) := by
  have HC := Lib.hid (bytes_any k s.size w hk (by omega))
  have hcv : IntKind.u64.wrap (s.size : Int) = (s.size : Int) := by rw [IntKind.wrap_u64]; omega
  go_enter Tryd.func29, Tryd.ntmps29
  go_wp2_with fail
  refine HC.out.mono ?_
  rintro e w1 ⟨A, n, c, rfl, hn, hown, h1, h2, hbs, hb⟩
  have HB := Lib.hid hb
  have hbz := hb.size
  have hnl : (leB k s.size).length + s.size ≤ 140737488355328 := by rw [leB_length]; omega
  clear hb hbs HC
  go_wp2_with (first | (refine wp_appS w1 rfl (.tmp 9) (.tmp 10) 32 9 rfl w.heap.size 5 u8E (by kernel_rfl) (.slice A n c) _ rfl hown s rfl hnl hbz ?_; intro v' w2 hown2 hg2))
  have HR : Hid (RetO 5 (leB k s.size ++ bl s) w (.returned v') w2) := RetO.of rfl hown2 (HB.out.trans (below_app hown hg2 hbz))
  clear hown hown2 hg2
  try go_wp2_with fail
  go_ret
  exact HR.out
end Go.Proofs.YtolpggmcjengcaaDoor

namespace Go.Proofs.YtolpggmcjengcaaDoor
open Go.RowKit
set_option linter.unusedVariables false

/-- append of bytes onto a row of the call's own. -/
theorem wp_appB {P : Program} (w : World) {ops : Array Oper} {rest : List Oper} {o : Oper} {a : Act} {Q : Exit → Act → World → Prop} (hgd : o.guard = none) (s x : Operand) (t : TypeId)
    (ho : o.op = .call { callee := .builtin .append, args := #[s, x], argTypes := #[t, t] })
    (base : Nat) (e : TypeId) {z : Value} (E : Elem P t e z 1) (v : Value) (l : List UInt8) (hs : a.eval s = v) (hown : Own w base e v (l.map bv))
    (B : Nat) (A : Option Addr) (m c : Nat) (b : List UInt8) (hx : a.eval x = .slice A m c) (hm : Hid (b.length = m)) (hr : Bs w B A b)
    (h63 : l.length + m ≤ 140737488355328) (hbase : base ≤ w.heap.size)
    (h : ∀ v' w', Own w' base e v' ((l ++ b).map bv) → w.grownBy w' v.ownBlock → wpList P ops Q rest (a.put o.dst v') w') : wpList P ops Q (o :: rest) a w :=
  wp_app w hgd s x t ho base e E v (l.map bv) hs hown B A m c (b.map bv) hx (by rw [List.length_map]; exact hm.out) hr (bv_one b) (by rw [List.length_map]; unfold maxLen; omega) (by rw [List.length_map]; omega) hbase
    fun v' w' h1 h2 _ => h v' w' (by rw [List.map_append]; exact h1) h2
theorem rhasL_any (k : Int) (w : World) : Calls Tryd.prog 10 #[.int .i64 k, .int .u8 108] w fun e w' => e = .returned (.bool (hasLe k)) ∧ Below w.heap.size w w' := by
  rw [← has_108]; exact rhas_any k 108 w
theorem rhasN_any (k : Int) (w : World) : Calls Tryd.prog 10 #[.int .i64 k, .int .u8 110] w fun e w' => e = .returned (.bool (hasNu k)) ∧ Below w.heap.size w w' := by
  rw [← has_110]; exact rhas_any k 110 w
theorem rhasB_any (k : Int) (w : World) : Calls Tryd.prog 10 #[.int .i64 k, .int .u8 98] w fun e w' => e = .returned (.bool (hasBi k)) ∧ Below w.heap.size w w' := by
  rw [← has_98]; exact rhas_any k 98 w

set_option maxRecDepth 100000 in
set_option maxHeartbeats 6400000 in
theorem rbytes11_any (r : RecV) (w : World) (hr : r.Ok) (hk : kindR r.kind = true) (hn : r.name.size ≤ 65536) : Calls Tryd.prog 14 #[r.val] w (RetO 5 (bytesR r) w) := by
  obtain ⟨seq, kind, name, lease, n, bits⟩ := r
  obtain ⟨o1, o2, o3, o4, o5, o6⟩ := hr
  simp only at o1 o2 o3 o4 o5 o6 hk hn
  have hk5 := kindR_iff.1 hk
  obtain ⟨q, rfl⟩ : ∃ q : Nat, kind = (q : Int) := ⟨kind.toNat, by omega⟩
  show Calls Tryd.prog 14 #[.agg #[.int .u64 (seq : Int), .int .i64 (q : Int), .string name, .int .u64 (lease : Int), .int .u64 (n : Int), .int .u64 (bits : Int)]] w (RetO 5 (bytesR ⟨seq, q, name, lease, n, bits⟩) w)
  have HF : Hid (bytesR ⟨seq, q, name, lease, n, bits⟩ = leB 1 q ++ leB 8 seq ++ (leB 1 name.size ++ bl name) ++ (if hasLe q then leB 8 lease else []) ++ (if hasNu q then leB 8 n else []) ++ (if hasBi q then leB 8 bits else [])) := rfl
  obtain ⟨wb, hwb⟩ : ∃ wb, w.alloc (.cells #[.int .u64 (seq : Int), .int .i64 (q : Int), .string name, .int .u64 (lease : Int), .int .u64 (n : Int), .int .u64 (bits : Int)] 24) = wb := ⟨_, rfl⟩
  have HK : Hid (Bk wb w.heap.size 24 [.int .u64 (seq : Int), .int .i64 (q : Int), .string name, .int .u64 (lease : Int), .int .u64 (n : Int), .int .u64 (bits : Int)]) := by show Bk _ _ _ _; rw [← hwb]; exact Bk.new w _ _
  have HBB : Hid (Below w.heap.size w wb) := by show Below _ _ _; rw [← hwb]; exact (Below.refl _ w).alloc (Nat.le_refl _) _
  have HB0 : Hid (Below wb.heap.size wb wb) := Below.refl _ _
  have HC1 := Lib.hid (bytes_any 1 q wb (by omega) (by omega))
  have HC2 := Lib.hid (fun W : World => bytes_any 8 seq W (by omega) (by omega))
  have HC3 := Lib.hid (fun W : World => rtext_any 1 name W (by omega) hn)
  have HC4 := Lib.hid (fun W : World => bytes_any 8 lease W (by omega) (by omega))
  have HC5 := Lib.hid (fun W : World => bytes_any 8 n W (by omega) (by omega))
  have HC6 := Lib.hid (fun W : World => bytes_any 8 bits W (by omega) (by omega))
  have HT1 : Hid ((leB 1 q).length ≤ 65537) := by show _ ≤ _; rw [leB_length]; omega
  have HM2 : Hid ((leB 8 seq).length ≤ 65537) := by show _ ≤ _; rw [leB_length]; omega
  have HM3 : Hid ((leB 1 name.size ++ bl name).length ≤ 65537) := by show _ ≤ _; rw [List.length_append, leB_length, bl_length]; omega
  have HM4 : Hid ((leB 8 lease).length ≤ 65537) := by show _ ≤ _; rw [leB_length]; omega
  have HM5 : Hid ((leB 8 n).length ≤ 65537) := by show _ ≤ _; rw [leB_length]; omega
  have HM6 : Hid ((leB 8 bits).length ≤ 65537) := by show _ ≤ _; rw [leB_length]; omega
  have hcv : IntKind.u64.wrap (q : Int) = (q : Int) := by rw [IntKind.wrap_u64]; omega
  clear o1 o2 o3 o4 o5 o6 hk hn hk5
  go_enter Tryd.func14, Tryd.ntmps14
  have y0 : wb.cell? ⟨w.heap.size, 0, none⟩ = some (.int .u64 (seq : Int)) := (HK.out.below HB0.out HK.out.lt).cellAt 0 (show 0 < 6 by decide)
  have y1 : wb.cell? ⟨w.heap.size, 1, none⟩ = some (.int .i64 (q : Int)) := (HK.out.below HB0.out HK.out.lt).cellAt 1 (show 1 < 6 by decide)
  have y2 : wb.cell? ⟨w.heap.size, 2, none⟩ = some (.string name) := (HK.out.below HB0.out HK.out.lt).cellAt 2 (show 2 < 6 by decide)
  have y3 : wb.cell? ⟨w.heap.size, 3, none⟩ = some (.int .u64 (lease : Int)) := (HK.out.below HB0.out HK.out.lt).cellAt 3 (show 3 < 6 by decide)
  have y4 : wb.cell? ⟨w.heap.size, 4, none⟩ = some (.int .u64 (n : Int)) := (HK.out.below HB0.out HK.out.lt).cellAt 4 (show 4 < 6 by decide)
  have y5 : wb.cell? ⟨w.heap.size, 5, none⟩ = some (.int .u64 (bits : Int)) := (HK.out.below HB0.out HK.out.lt).cellAt 5 (show 5 < 6 by decide)
  go_wp2_with fail
  refine HC1.out.mono ?_
  rintro e w1 ⟨A1, n1, c1, rfl, hn1, hown1, h11, h12, hbs1, hb1⟩
  have HB1 := Lib.hid hb1
  have HO1 := Lib.hid hown1
  clear hbs1 hb1 hown1
  obtain ⟨v1, hv1⟩ : ∃ v1, Value.slice A1 n1 c1 = v1 := ⟨_, rfl⟩
  rw [hv1] at HO1 ⊢
  clear hv1 h11 h12 hn1
  clear y0 y1 y2 y3 y4 y5
  have y0 : w1.cell? ⟨w.heap.size, 0, none⟩ = some (.int .u64 (seq : Int)) := (HK.out.below HB1.out HK.out.lt).cellAt 0 (show 0 < 6 by decide)
  have y1 : w1.cell? ⟨w.heap.size, 1, none⟩ = some (.int .i64 (q : Int)) := (HK.out.below HB1.out HK.out.lt).cellAt 1 (show 1 < 6 by decide)
  have y2 : w1.cell? ⟨w.heap.size, 2, none⟩ = some (.string name) := (HK.out.below HB1.out HK.out.lt).cellAt 2 (show 2 < 6 by decide)
  have y3 : w1.cell? ⟨w.heap.size, 3, none⟩ = some (.int .u64 (lease : Int)) := (HK.out.below HB1.out HK.out.lt).cellAt 3 (show 3 < 6 by decide)
  have y4 : w1.cell? ⟨w.heap.size, 4, none⟩ = some (.int .u64 (n : Int)) := (HK.out.below HB1.out HK.out.lt).cellAt 4 (show 4 < 6 by decide)
  have y5 : w1.cell? ⟨w.heap.size, 5, none⟩ = some (.int .u64 (bits : Int)) := (HK.out.below HB1.out HK.out.lt).cellAt 5 (show 5 < 6 by decide)
  try go_wp2_with fail
  refine (HC2.out _).mono ?_
  rintro e x2 ⟨A2, n2, c2, rfl, hn2, hown2, ha2, hc2, hbs2, hb2⟩
  have HX2 : Hid (Below wb.heap.size wb x2) := HB1.out.trans (hb2.mono HB1.out.size)
  have hO2 := HO1.out.below hb2 (Nat.le_refl _)
  have hz2 := HX2.out.size
  have hm2 : (leB 8 seq).length ≤ 65537 := HM2.out
  have hl2 : (leB 1 q).length + n2 ≤ 140737488355328 := by
    have h1 := HT1.out
    rw [hn2.out] at hm2
    omega
  have HT2 : Hid ((leB 1 q ++ leB 8 seq).length ≤ 131074) := by
    show _ ≤ _
    have h1 := HT1.out
    rw [List.length_append]
    omega
  have HL2 := hn2
  clear hm2
  clear hn2 hown2 ha2 hc2 hb2
  go_wp2_with (first | (refine wp_appB x2 rfl (.tmp 8) (.tmp 11) 32 rfl wb.heap.size 5 u8E v1 (leB 1 q) rfl hO2 x2.heap.size A2 n2 c2 (leB 8 seq) rfl HL2 hbs2 hl2 hz2 ?_; intro v2 w2 ho2 hg2; have HB2 : Hid (Below wb.heap.size wb w2) := HX2.out.trans (below_app hO2 hg2 hz2); have HO2 := Lib.hid ho2; clear y0 y1 y2 y3 y4 y5; have y0 : w2.cell? ⟨w.heap.size, 0, none⟩ = some (.int .u64 (seq : Int)) := (HK.out.below HB2.out HK.out.lt).cellAt 0 (show 0 < 6 by decide); have y1 : w2.cell? ⟨w.heap.size, 1, none⟩ = some (.int .i64 (q : Int)) := (HK.out.below HB2.out HK.out.lt).cellAt 1 (show 1 < 6 by decide); have y2 : w2.cell? ⟨w.heap.size, 2, none⟩ = some (.string name) := (HK.out.below HB2.out HK.out.lt).cellAt 2 (show 2 < 6 by decide); have y3 : w2.cell? ⟨w.heap.size, 3, none⟩ = some (.int .u64 (lease : Int)) := (HK.out.below HB2.out HK.out.lt).cellAt 3 (show 3 < 6 by decide); have y4 : w2.cell? ⟨w.heap.size, 4, none⟩ = some (.int .u64 (n : Int)) := (HK.out.below HB2.out HK.out.lt).cellAt 4 (show 4 < 6 by decide); have y5 : w2.cell? ⟨w.heap.size, 5, none⟩ = some (.int .u64 (bits : Int)) := (HK.out.below HB2.out HK.out.lt).cellAt 5 (show 5 < 6 by decide); clear hO2 ho2 hg2 hbs2 hl2 hz2))
  try go_wp2_with fail
  refine (HC3.out _).mono ?_
  rintro e x3 ⟨A3, n3, c3, rfl, hn3, hown3, ha3, hc3, hbs3, hb3⟩
  have HX3 : Hid (Below wb.heap.size wb x3) := HB2.out.trans (hb3.mono HB2.out.size)
  have hO3 := HO2.out.below hb3 (Nat.le_refl _)
  have hz3 := HX3.out.size
  have hm3 : ((leB 1 name.size ++ bl name)).length ≤ 65537 := HM3.out
  have hl3 : (leB 1 q ++ leB 8 seq).length + n3 ≤ 140737488355328 := by
    have h1 := HT2.out
    rw [hn3.out] at hm3
    omega
  have HT3 : Hid ((leB 1 q ++ leB 8 seq ++ (leB 1 name.size ++ bl name)).length ≤ 196611) := by
    show _ ≤ _
    have h1 := HT2.out
    rw [List.length_append]
    omega
  have HL3 := hn3
  clear hm3
  clear hn3 hown3 ha3 hc3 hb3
  go_wp2_with (first | (refine wp_appB x3 rfl (.tmp 13) (.tmp 16) 32 rfl wb.heap.size 5 u8E v2 (leB 1 q ++ leB 8 seq) rfl hO3 x3.heap.size A3 n3 c3 ((leB 1 name.size ++ bl name)) rfl HL3 hbs3 hl3 hz3 ?_; intro v3 w3 ho3 hg3; have HB3 : Hid (Below wb.heap.size wb w3) := HX3.out.trans (below_app hO3 hg3 hz3); have HO3 := Lib.hid ho3; clear y0 y1 y2 y3 y4 y5; have y0 : w3.cell? ⟨w.heap.size, 0, none⟩ = some (.int .u64 (seq : Int)) := (HK.out.below HB3.out HK.out.lt).cellAt 0 (show 0 < 6 by decide); have y1 : w3.cell? ⟨w.heap.size, 1, none⟩ = some (.int .i64 (q : Int)) := (HK.out.below HB3.out HK.out.lt).cellAt 1 (show 1 < 6 by decide); have y2 : w3.cell? ⟨w.heap.size, 2, none⟩ = some (.string name) := (HK.out.below HB3.out HK.out.lt).cellAt 2 (show 2 < 6 by decide); have y3 : w3.cell? ⟨w.heap.size, 3, none⟩ = some (.int .u64 (lease : Int)) := (HK.out.below HB3.out HK.out.lt).cellAt 3 (show 3 < 6 by decide); have y4 : w3.cell? ⟨w.heap.size, 4, none⟩ = some (.int .u64 (n : Int)) := (HK.out.below HB3.out HK.out.lt).cellAt 4 (show 4 < 6 by decide); have y5 : w3.cell? ⟨w.heap.size, 5, none⟩ = some (.int .u64 (bits : Int)) := (HK.out.below HB3.out HK.out.lt).cellAt 5 (show 5 < 6 by decide); clear hO3 ho3 hg3 hbs3 hl3 hz3))
  try go_wp2_with fail
  refine (rhasL_any (q : Int) w3).mono ?_
  rintro e w4 ⟨rfl, hb4⟩
  have HB4 : Hid (Below wb.heap.size wb w4) := HB3.out.trans (hb4.mono HB3.out.size)
  have HO4 := Lib.hid (HO3.out.below hb4 (Nat.le_refl _))
  clear hb4
  clear y0 y1 y2 y3 y4 y5
  have y0 : w4.cell? ⟨w.heap.size, 0, none⟩ = some (.int .u64 (seq : Int)) := (HK.out.below HB4.out HK.out.lt).cellAt 0 (show 0 < 6 by decide)
  have y1 : w4.cell? ⟨w.heap.size, 1, none⟩ = some (.int .i64 (q : Int)) := (HK.out.below HB4.out HK.out.lt).cellAt 1 (show 1 < 6 by decide)
  have y2 : w4.cell? ⟨w.heap.size, 2, none⟩ = some (.string name) := (HK.out.below HB4.out HK.out.lt).cellAt 2 (show 2 < 6 by decide)
  have y3 : w4.cell? ⟨w.heap.size, 3, none⟩ = some (.int .u64 (lease : Int)) := (HK.out.below HB4.out HK.out.lt).cellAt 3 (show 3 < 6 by decide)
  have y4 : w4.cell? ⟨w.heap.size, 4, none⟩ = some (.int .u64 (n : Int)) := (HK.out.below HB4.out HK.out.lt).cellAt 4 (show 4 < 6 by decide)
  have y5 : w4.cell? ⟨w.heap.size, 5, none⟩ = some (.int .u64 (bits : Int)) := (HK.out.below HB4.out HK.out.lt).cellAt 5 (show 5 < 6 by decide)
  cases hHL : hasLe (q : Int) with
  | true =>
    have HL := Lib.hid hHL
    clear hHL
    try go_wp2_with fail
    refine (HC4.out _).mono ?_
    rintro e x5 ⟨A5, n5, c5, rfl, hn5, hown5, ha5, hc5, hbs5, hb5⟩
    have HX5 : Hid (Below wb.heap.size wb x5) := HB4.out.trans (hb5.mono HB4.out.size)
    have hO5 := HO4.out.below hb5 (Nat.le_refl _)
    have hz5 := HX5.out.size
    have hm5 : (leB 8 lease).length ≤ 65537 := HM4.out
    have hl5 : (leB 1 q ++ leB 8 seq ++ (leB 1 name.size ++ bl name)).length + n5 ≤ 140737488355328 := by
      have h1 := HT3.out
      rw [hn5.out] at hm5
      omega
    have HT5 : Hid ((leB 1 q ++ leB 8 seq ++ (leB 1 name.size ++ bl name) ++ leB 8 lease).length ≤ 262148) := by
      show _ ≤ _
      have h1 := HT3.out
      rw [List.length_append]
      omega
    have HL5 := hn5
    clear hm5
    clear hn5 hown5 ha5 hc5 hb5
    go_wp2_with (first | (refine wp_appB x5 rfl (.tmp 21) (.tmp 24) 32 rfl wb.heap.size 5 u8E v3 (leB 1 q ++ leB 8 seq ++ (leB 1 name.size ++ bl name)) rfl hO5 x5.heap.size A5 n5 c5 (leB 8 lease) rfl HL5 hbs5 hl5 hz5 ?_; intro v5 w5 ho5 hg5; have HB5 : Hid (Below wb.heap.size wb w5) := HX5.out.trans (below_app hO5 hg5 hz5); have HO5 := Lib.hid ho5; clear y0 y1 y2 y3 y4 y5; have y0 : w5.cell? ⟨w.heap.size, 0, none⟩ = some (.int .u64 (seq : Int)) := (HK.out.below HB5.out HK.out.lt).cellAt 0 (show 0 < 6 by decide); have y1 : w5.cell? ⟨w.heap.size, 1, none⟩ = some (.int .i64 (q : Int)) := (HK.out.below HB5.out HK.out.lt).cellAt 1 (show 1 < 6 by decide); have y2 : w5.cell? ⟨w.heap.size, 2, none⟩ = some (.string name) := (HK.out.below HB5.out HK.out.lt).cellAt 2 (show 2 < 6 by decide); have y3 : w5.cell? ⟨w.heap.size, 3, none⟩ = some (.int .u64 (lease : Int)) := (HK.out.below HB5.out HK.out.lt).cellAt 3 (show 3 < 6 by decide); have y4 : w5.cell? ⟨w.heap.size, 4, none⟩ = some (.int .u64 (n : Int)) := (HK.out.below HB5.out HK.out.lt).cellAt 4 (show 4 < 6 by decide); have y5 : w5.cell? ⟨w.heap.size, 5, none⟩ = some (.int .u64 (bits : Int)) := (HK.out.below HB5.out HK.out.lt).cellAt 5 (show 5 < 6 by decide); clear hO5 ho5 hg5 hbs5 hl5 hz5))
    try go_wp2_with fail
    refine (rhasN_any (q : Int) w5).mono ?_
    rintro e w6 ⟨rfl, hb6⟩
    have HB6 : Hid (Below wb.heap.size wb w6) := HB5.out.trans (hb6.mono HB5.out.size)
    have HO6 := Lib.hid (HO5.out.below hb6 (Nat.le_refl _))
    clear hb6
    clear y0 y1 y2 y3 y4 y5
    have y0 : w6.cell? ⟨w.heap.size, 0, none⟩ = some (.int .u64 (seq : Int)) := (HK.out.below HB6.out HK.out.lt).cellAt 0 (show 0 < 6 by decide)
    have y1 : w6.cell? ⟨w.heap.size, 1, none⟩ = some (.int .i64 (q : Int)) := (HK.out.below HB6.out HK.out.lt).cellAt 1 (show 1 < 6 by decide)
    have y2 : w6.cell? ⟨w.heap.size, 2, none⟩ = some (.string name) := (HK.out.below HB6.out HK.out.lt).cellAt 2 (show 2 < 6 by decide)
    have y3 : w6.cell? ⟨w.heap.size, 3, none⟩ = some (.int .u64 (lease : Int)) := (HK.out.below HB6.out HK.out.lt).cellAt 3 (show 3 < 6 by decide)
    have y4 : w6.cell? ⟨w.heap.size, 4, none⟩ = some (.int .u64 (n : Int)) := (HK.out.below HB6.out HK.out.lt).cellAt 4 (show 4 < 6 by decide)
    have y5 : w6.cell? ⟨w.heap.size, 5, none⟩ = some (.int .u64 (bits : Int)) := (HK.out.below HB6.out HK.out.lt).cellAt 5 (show 5 < 6 by decide)
    cases hHN : hasNu (q : Int) with
    | true =>
      have HN := Lib.hid hHN
      clear hHN
      try go_wp2_with fail
      refine (HC5.out _).mono ?_
      rintro e x7 ⟨A7, n7, c7, rfl, hn7, hown7, ha7, hc7, hbs7, hb7⟩
      have HX7 : Hid (Below wb.heap.size wb x7) := HB6.out.trans (hb7.mono HB6.out.size)
      have hO7 := HO6.out.below hb7 (Nat.le_refl _)
      have hz7 := HX7.out.size
      have hm7 : (leB 8 n).length ≤ 65537 := HM5.out
      have hl7 : (leB 1 q ++ leB 8 seq ++ (leB 1 name.size ++ bl name) ++ leB 8 lease).length + n7 ≤ 140737488355328 := by
        have h1 := HT5.out
        rw [hn7.out] at hm7
        omega
      have HT7 : Hid ((leB 1 q ++ leB 8 seq ++ (leB 1 name.size ++ bl name) ++ leB 8 lease ++ leB 8 n).length ≤ 327685) := by
        show _ ≤ _
        have h1 := HT5.out
        rw [List.length_append]
        omega
      have HL7 := hn7
      clear hm7
      clear hn7 hown7 ha7 hc7 hb7
      go_wp2_with (first | (refine wp_appB x7 rfl (.tmp 29) (.tmp 32) 32 rfl wb.heap.size 5 u8E v5 (leB 1 q ++ leB 8 seq ++ (leB 1 name.size ++ bl name) ++ leB 8 lease) rfl hO7 x7.heap.size A7 n7 c7 (leB 8 n) rfl HL7 hbs7 hl7 hz7 ?_; intro v7 w7 ho7 hg7; have HB7 : Hid (Below wb.heap.size wb w7) := HX7.out.trans (below_app hO7 hg7 hz7); have HO7 := Lib.hid ho7; clear y0 y1 y2 y3 y4 y5; have y0 : w7.cell? ⟨w.heap.size, 0, none⟩ = some (.int .u64 (seq : Int)) := (HK.out.below HB7.out HK.out.lt).cellAt 0 (show 0 < 6 by decide); have y1 : w7.cell? ⟨w.heap.size, 1, none⟩ = some (.int .i64 (q : Int)) := (HK.out.below HB7.out HK.out.lt).cellAt 1 (show 1 < 6 by decide); have y2 : w7.cell? ⟨w.heap.size, 2, none⟩ = some (.string name) := (HK.out.below HB7.out HK.out.lt).cellAt 2 (show 2 < 6 by decide); have y3 : w7.cell? ⟨w.heap.size, 3, none⟩ = some (.int .u64 (lease : Int)) := (HK.out.below HB7.out HK.out.lt).cellAt 3 (show 3 < 6 by decide); have y4 : w7.cell? ⟨w.heap.size, 4, none⟩ = some (.int .u64 (n : Int)) := (HK.out.below HB7.out HK.out.lt).cellAt 4 (show 4 < 6 by decide); have y5 : w7.cell? ⟨w.heap.size, 5, none⟩ = some (.int .u64 (bits : Int)) := (HK.out.below HB7.out HK.out.lt).cellAt 5 (show 5 < 6 by decide); clear hO7 ho7 hg7 hbs7 hl7 hz7))
      try go_wp2_with fail
      refine (rhasB_any (q : Int) w7).mono ?_
      rintro e w8 ⟨rfl, hb8⟩
      have HB8 : Hid (Below wb.heap.size wb w8) := HB7.out.trans (hb8.mono HB7.out.size)
      have HO8 := Lib.hid (HO7.out.below hb8 (Nat.le_refl _))
      clear hb8
      clear y0 y1 y2 y3 y4 y5
      have y0 : w8.cell? ⟨w.heap.size, 0, none⟩ = some (.int .u64 (seq : Int)) := (HK.out.below HB8.out HK.out.lt).cellAt 0 (show 0 < 6 by decide)
      have y1 : w8.cell? ⟨w.heap.size, 1, none⟩ = some (.int .i64 (q : Int)) := (HK.out.below HB8.out HK.out.lt).cellAt 1 (show 1 < 6 by decide)
      have y2 : w8.cell? ⟨w.heap.size, 2, none⟩ = some (.string name) := (HK.out.below HB8.out HK.out.lt).cellAt 2 (show 2 < 6 by decide)
      have y3 : w8.cell? ⟨w.heap.size, 3, none⟩ = some (.int .u64 (lease : Int)) := (HK.out.below HB8.out HK.out.lt).cellAt 3 (show 3 < 6 by decide)
      have y4 : w8.cell? ⟨w.heap.size, 4, none⟩ = some (.int .u64 (n : Int)) := (HK.out.below HB8.out HK.out.lt).cellAt 4 (show 4 < 6 by decide)
      have y5 : w8.cell? ⟨w.heap.size, 5, none⟩ = some (.int .u64 (bits : Int)) := (HK.out.below HB8.out HK.out.lt).cellAt 5 (show 5 < 6 by decide)
      cases hHP : hasBi (q : Int) with
      | true =>
        have HP := Lib.hid hHP
        clear hHP
        try go_wp2_with fail
        refine (HC6.out _).mono ?_
        rintro e x9 ⟨A9, n9, c9, rfl, hn9, hown9, ha9, hc9, hbs9, hb9⟩
        have HX9 : Hid (Below wb.heap.size wb x9) := HB8.out.trans (hb9.mono HB8.out.size)
        have hO9 := HO8.out.below hb9 (Nat.le_refl _)
        have hz9 := HX9.out.size
        have hm9 : (leB 8 bits).length ≤ 65537 := HM6.out
        have hl9 : (leB 1 q ++ leB 8 seq ++ (leB 1 name.size ++ bl name) ++ leB 8 lease ++ leB 8 n).length + n9 ≤ 140737488355328 := by
          have h1 := HT7.out
          rw [hn9.out] at hm9
          omega
        have HT9 : Hid ((leB 1 q ++ leB 8 seq ++ (leB 1 name.size ++ bl name) ++ leB 8 lease ++ leB 8 n ++ leB 8 bits).length ≤ 393222) := by
          show _ ≤ _
          have h1 := HT7.out
          rw [List.length_append]
          omega
        have HL9 := hn9
        clear hm9
        clear hn9 hown9 ha9 hc9 hb9
        go_wp2_with (first | (refine wp_appB x9 rfl (.tmp 37) (.tmp 40) 32 rfl wb.heap.size 5 u8E v7 (leB 1 q ++ leB 8 seq ++ (leB 1 name.size ++ bl name) ++ leB 8 lease ++ leB 8 n) rfl hO9 x9.heap.size A9 n9 c9 (leB 8 bits) rfl HL9 hbs9 hl9 hz9 ?_; intro v9 w9 ho9 hg9; have HB9 : Hid (Below wb.heap.size wb w9) := HX9.out.trans (below_app hO9 hg9 hz9); have HO9 := Lib.hid ho9; clear y0 y1 y2 y3 y4 y5; have y0 : w9.cell? ⟨w.heap.size, 0, none⟩ = some (.int .u64 (seq : Int)) := (HK.out.below HB9.out HK.out.lt).cellAt 0 (show 0 < 6 by decide); have y1 : w9.cell? ⟨w.heap.size, 1, none⟩ = some (.int .i64 (q : Int)) := (HK.out.below HB9.out HK.out.lt).cellAt 1 (show 1 < 6 by decide); have y2 : w9.cell? ⟨w.heap.size, 2, none⟩ = some (.string name) := (HK.out.below HB9.out HK.out.lt).cellAt 2 (show 2 < 6 by decide); have y3 : w9.cell? ⟨w.heap.size, 3, none⟩ = some (.int .u64 (lease : Int)) := (HK.out.below HB9.out HK.out.lt).cellAt 3 (show 3 < 6 by decide); have y4 : w9.cell? ⟨w.heap.size, 4, none⟩ = some (.int .u64 (n : Int)) := (HK.out.below HB9.out HK.out.lt).cellAt 4 (show 4 < 6 by decide); have y5 : w9.cell? ⟨w.heap.size, 5, none⟩ = some (.int .u64 (bits : Int)) := (HK.out.below HB9.out HK.out.lt).cellAt 5 (show 5 < 6 by decide); clear hO9 ho9 hg9 hbs9 hl9 hz9))
        have HR : Hid (RetO 5 (bytesR ⟨seq, q, name, lease, n, bits⟩) w (.returned v9) w9) := by
          show RetO _ _ _ _ _
          rw [HF.out, HL.out, HN.out, HP.out]
          have h := RetO.of (x := .returned v9) rfl (HO9.out.mono HBB.out.size) (HBB.out.trans (HB9.out.mono HBB.out.size))
          exact h.list (by simp)
        try go_wp2_with fail
        go_ret
        exact HR.out
      | false =>
        have HP := Lib.hid hHP
        clear hHP
        have HR : Hid (RetO 5 (bytesR ⟨seq, q, name, lease, n, bits⟩) w (.returned v7) w8) := by
          show RetO _ _ _ _ _
          rw [HF.out, HL.out, HN.out, HP.out]
          have h := RetO.of (x := .returned v7) rfl (HO8.out.mono HBB.out.size) (HBB.out.trans (HB8.out.mono HBB.out.size))
          exact h.list (by simp)
        try go_wp2_with fail
        go_ret
        exact HR.out
    | false =>
      have HN := Lib.hid hHN
      clear hHN
      try go_wp2_with fail
      refine (rhasB_any (q : Int) w6).mono ?_
      rintro e w10 ⟨rfl, hb10⟩
      have HB10 : Hid (Below wb.heap.size wb w10) := HB6.out.trans (hb10.mono HB6.out.size)
      have HO10 := Lib.hid (HO6.out.below hb10 (Nat.le_refl _))
      clear hb10
      clear y0 y1 y2 y3 y4 y5
      have y0 : w10.cell? ⟨w.heap.size, 0, none⟩ = some (.int .u64 (seq : Int)) := (HK.out.below HB10.out HK.out.lt).cellAt 0 (show 0 < 6 by decide)
      have y1 : w10.cell? ⟨w.heap.size, 1, none⟩ = some (.int .i64 (q : Int)) := (HK.out.below HB10.out HK.out.lt).cellAt 1 (show 1 < 6 by decide)
      have y2 : w10.cell? ⟨w.heap.size, 2, none⟩ = some (.string name) := (HK.out.below HB10.out HK.out.lt).cellAt 2 (show 2 < 6 by decide)
      have y3 : w10.cell? ⟨w.heap.size, 3, none⟩ = some (.int .u64 (lease : Int)) := (HK.out.below HB10.out HK.out.lt).cellAt 3 (show 3 < 6 by decide)
      have y4 : w10.cell? ⟨w.heap.size, 4, none⟩ = some (.int .u64 (n : Int)) := (HK.out.below HB10.out HK.out.lt).cellAt 4 (show 4 < 6 by decide)
      have y5 : w10.cell? ⟨w.heap.size, 5, none⟩ = some (.int .u64 (bits : Int)) := (HK.out.below HB10.out HK.out.lt).cellAt 5 (show 5 < 6 by decide)
      cases hHP : hasBi (q : Int) with
      | true =>
        have HP := Lib.hid hHP
        clear hHP
        try go_wp2_with fail
        refine (HC6.out _).mono ?_
        rintro e x11 ⟨A11, n11, c11, rfl, hn11, hown11, ha11, hc11, hbs11, hb11⟩
        have HX11 : Hid (Below wb.heap.size wb x11) := HB10.out.trans (hb11.mono HB10.out.size)
        have hO11 := HO10.out.below hb11 (Nat.le_refl _)
        have hz11 := HX11.out.size
        have hm11 : (leB 8 bits).length ≤ 65537 := HM6.out
        have hl11 : (leB 1 q ++ leB 8 seq ++ (leB 1 name.size ++ bl name) ++ leB 8 lease).length + n11 ≤ 140737488355328 := by
          have h1 := HT5.out
          rw [hn11.out] at hm11
          omega
        have HT11 : Hid ((leB 1 q ++ leB 8 seq ++ (leB 1 name.size ++ bl name) ++ leB 8 lease ++ leB 8 bits).length ≤ 327685) := by
          show _ ≤ _
          have h1 := HT5.out
          rw [List.length_append]
          omega
        have HL11 := hn11
        clear hm11
        clear hn11 hown11 ha11 hc11 hb11
        go_wp2_with (first | (refine wp_appB x11 rfl (.tmp 37) (.tmp 40) 32 rfl wb.heap.size 5 u8E v5 (leB 1 q ++ leB 8 seq ++ (leB 1 name.size ++ bl name) ++ leB 8 lease) rfl hO11 x11.heap.size A11 n11 c11 (leB 8 bits) rfl HL11 hbs11 hl11 hz11 ?_; intro v11 w11 ho11 hg11; have HB11 : Hid (Below wb.heap.size wb w11) := HX11.out.trans (below_app hO11 hg11 hz11); have HO11 := Lib.hid ho11; clear y0 y1 y2 y3 y4 y5; have y0 : w11.cell? ⟨w.heap.size, 0, none⟩ = some (.int .u64 (seq : Int)) := (HK.out.below HB11.out HK.out.lt).cellAt 0 (show 0 < 6 by decide); have y1 : w11.cell? ⟨w.heap.size, 1, none⟩ = some (.int .i64 (q : Int)) := (HK.out.below HB11.out HK.out.lt).cellAt 1 (show 1 < 6 by decide); have y2 : w11.cell? ⟨w.heap.size, 2, none⟩ = some (.string name) := (HK.out.below HB11.out HK.out.lt).cellAt 2 (show 2 < 6 by decide); have y3 : w11.cell? ⟨w.heap.size, 3, none⟩ = some (.int .u64 (lease : Int)) := (HK.out.below HB11.out HK.out.lt).cellAt 3 (show 3 < 6 by decide); have y4 : w11.cell? ⟨w.heap.size, 4, none⟩ = some (.int .u64 (n : Int)) := (HK.out.below HB11.out HK.out.lt).cellAt 4 (show 4 < 6 by decide); have y5 : w11.cell? ⟨w.heap.size, 5, none⟩ = some (.int .u64 (bits : Int)) := (HK.out.below HB11.out HK.out.lt).cellAt 5 (show 5 < 6 by decide); clear hO11 ho11 hg11 hbs11 hl11 hz11))
        have HR : Hid (RetO 5 (bytesR ⟨seq, q, name, lease, n, bits⟩) w (.returned v11) w11) := by
          show RetO _ _ _ _ _
          rw [HF.out, HL.out, HN.out, HP.out]
          have h := RetO.of (x := .returned v11) rfl (HO11.out.mono HBB.out.size) (HBB.out.trans (HB11.out.mono HBB.out.size))
          exact h.list (by simp)
        try go_wp2_with fail
        go_ret
        exact HR.out
      | false =>
        have HP := Lib.hid hHP
        clear hHP
        have HR : Hid (RetO 5 (bytesR ⟨seq, q, name, lease, n, bits⟩) w (.returned v5) w10) := by
          show RetO _ _ _ _ _
          rw [HF.out, HL.out, HN.out, HP.out]
          have h := RetO.of (x := .returned v5) rfl (HO10.out.mono HBB.out.size) (HBB.out.trans (HB10.out.mono HBB.out.size))
          exact h.list (by simp)
        try go_wp2_with fail
        go_ret
        exact HR.out
  | false =>
    have HL := Lib.hid hHL
    clear hHL
    try go_wp2_with fail
    refine (rhasN_any (q : Int) w4).mono ?_
    rintro e w12 ⟨rfl, hb12⟩
    have HB12 : Hid (Below wb.heap.size wb w12) := HB4.out.trans (hb12.mono HB4.out.size)
    have HO12 := Lib.hid (HO4.out.below hb12 (Nat.le_refl _))
    clear hb12
    clear y0 y1 y2 y3 y4 y5
    have y0 : w12.cell? ⟨w.heap.size, 0, none⟩ = some (.int .u64 (seq : Int)) := (HK.out.below HB12.out HK.out.lt).cellAt 0 (show 0 < 6 by decide)
    have y1 : w12.cell? ⟨w.heap.size, 1, none⟩ = some (.int .i64 (q : Int)) := (HK.out.below HB12.out HK.out.lt).cellAt 1 (show 1 < 6 by decide)
    have y2 : w12.cell? ⟨w.heap.size, 2, none⟩ = some (.string name) := (HK.out.below HB12.out HK.out.lt).cellAt 2 (show 2 < 6 by decide)
    have y3 : w12.cell? ⟨w.heap.size, 3, none⟩ = some (.int .u64 (lease : Int)) := (HK.out.below HB12.out HK.out.lt).cellAt 3 (show 3 < 6 by decide)
    have y4 : w12.cell? ⟨w.heap.size, 4, none⟩ = some (.int .u64 (n : Int)) := (HK.out.below HB12.out HK.out.lt).cellAt 4 (show 4 < 6 by decide)
    have y5 : w12.cell? ⟨w.heap.size, 5, none⟩ = some (.int .u64 (bits : Int)) := (HK.out.below HB12.out HK.out.lt).cellAt 5 (show 5 < 6 by decide)
    cases hHN : hasNu (q : Int) with
    | true =>
      have HN := Lib.hid hHN
      clear hHN
      try go_wp2_with fail
      refine (HC5.out _).mono ?_
      rintro e x13 ⟨A13, n13, c13, rfl, hn13, hown13, ha13, hc13, hbs13, hb13⟩
      have HX13 : Hid (Below wb.heap.size wb x13) := HB12.out.trans (hb13.mono HB12.out.size)
      have hO13 := HO12.out.below hb13 (Nat.le_refl _)
      have hz13 := HX13.out.size
      have hm13 : (leB 8 n).length ≤ 65537 := HM5.out
      have hl13 : (leB 1 q ++ leB 8 seq ++ (leB 1 name.size ++ bl name)).length + n13 ≤ 140737488355328 := by
        have h1 := HT3.out
        rw [hn13.out] at hm13
        omega
      have HT13 : Hid ((leB 1 q ++ leB 8 seq ++ (leB 1 name.size ++ bl name) ++ leB 8 n).length ≤ 262148) := by
        show _ ≤ _
        have h1 := HT3.out
        rw [List.length_append]
        omega
      have HL13 := hn13
      clear hm13
      clear hn13 hown13 ha13 hc13 hb13
      go_wp2_with (first | (refine wp_appB x13 rfl (.tmp 29) (.tmp 32) 32 rfl wb.heap.size 5 u8E v3 (leB 1 q ++ leB 8 seq ++ (leB 1 name.size ++ bl name)) rfl hO13 x13.heap.size A13 n13 c13 (leB 8 n) rfl HL13 hbs13 hl13 hz13 ?_; intro v13 w13 ho13 hg13; have HB13 : Hid (Below wb.heap.size wb w13) := HX13.out.trans (below_app hO13 hg13 hz13); have HO13 := Lib.hid ho13; clear y0 y1 y2 y3 y4 y5; have y0 : w13.cell? ⟨w.heap.size, 0, none⟩ = some (.int .u64 (seq : Int)) := (HK.out.below HB13.out HK.out.lt).cellAt 0 (show 0 < 6 by decide); have y1 : w13.cell? ⟨w.heap.size, 1, none⟩ = some (.int .i64 (q : Int)) := (HK.out.below HB13.out HK.out.lt).cellAt 1 (show 1 < 6 by decide); have y2 : w13.cell? ⟨w.heap.size, 2, none⟩ = some (.string name) := (HK.out.below HB13.out HK.out.lt).cellAt 2 (show 2 < 6 by decide); have y3 : w13.cell? ⟨w.heap.size, 3, none⟩ = some (.int .u64 (lease : Int)) := (HK.out.below HB13.out HK.out.lt).cellAt 3 (show 3 < 6 by decide); have y4 : w13.cell? ⟨w.heap.size, 4, none⟩ = some (.int .u64 (n : Int)) := (HK.out.below HB13.out HK.out.lt).cellAt 4 (show 4 < 6 by decide); have y5 : w13.cell? ⟨w.heap.size, 5, none⟩ = some (.int .u64 (bits : Int)) := (HK.out.below HB13.out HK.out.lt).cellAt 5 (show 5 < 6 by decide); clear hO13 ho13 hg13 hbs13 hl13 hz13))
      try go_wp2_with fail
      refine (rhasB_any (q : Int) w13).mono ?_
      rintro e w14 ⟨rfl, hb14⟩
      have HB14 : Hid (Below wb.heap.size wb w14) := HB13.out.trans (hb14.mono HB13.out.size)
      have HO14 := Lib.hid (HO13.out.below hb14 (Nat.le_refl _))
      clear hb14
      clear y0 y1 y2 y3 y4 y5
      have y0 : w14.cell? ⟨w.heap.size, 0, none⟩ = some (.int .u64 (seq : Int)) := (HK.out.below HB14.out HK.out.lt).cellAt 0 (show 0 < 6 by decide)
      have y1 : w14.cell? ⟨w.heap.size, 1, none⟩ = some (.int .i64 (q : Int)) := (HK.out.below HB14.out HK.out.lt).cellAt 1 (show 1 < 6 by decide)
      have y2 : w14.cell? ⟨w.heap.size, 2, none⟩ = some (.string name) := (HK.out.below HB14.out HK.out.lt).cellAt 2 (show 2 < 6 by decide)
      have y3 : w14.cell? ⟨w.heap.size, 3, none⟩ = some (.int .u64 (lease : Int)) := (HK.out.below HB14.out HK.out.lt).cellAt 3 (show 3 < 6 by decide)
      have y4 : w14.cell? ⟨w.heap.size, 4, none⟩ = some (.int .u64 (n : Int)) := (HK.out.below HB14.out HK.out.lt).cellAt 4 (show 4 < 6 by decide)
      have y5 : w14.cell? ⟨w.heap.size, 5, none⟩ = some (.int .u64 (bits : Int)) := (HK.out.below HB14.out HK.out.lt).cellAt 5 (show 5 < 6 by decide)
      cases hHP : hasBi (q : Int) with
      | true =>
        have HP := Lib.hid hHP
        clear hHP
        try go_wp2_with fail
        refine (HC6.out _).mono ?_
        rintro e x15 ⟨A15, n15, c15, rfl, hn15, hown15, ha15, hc15, hbs15, hb15⟩
        have HX15 : Hid (Below wb.heap.size wb x15) := HB14.out.trans (hb15.mono HB14.out.size)
        have hO15 := HO14.out.below hb15 (Nat.le_refl _)
        have hz15 := HX15.out.size
        have hm15 : (leB 8 bits).length ≤ 65537 := HM6.out
        have hl15 : (leB 1 q ++ leB 8 seq ++ (leB 1 name.size ++ bl name) ++ leB 8 n).length + n15 ≤ 140737488355328 := by
          have h1 := HT13.out
          rw [hn15.out] at hm15
          omega
        have HT15 : Hid ((leB 1 q ++ leB 8 seq ++ (leB 1 name.size ++ bl name) ++ leB 8 n ++ leB 8 bits).length ≤ 327685) := by
          show _ ≤ _
          have h1 := HT13.out
          rw [List.length_append]
          omega
        have HL15 := hn15
        clear hm15
        clear hn15 hown15 ha15 hc15 hb15
        go_wp2_with (first | (refine wp_appB x15 rfl (.tmp 37) (.tmp 40) 32 rfl wb.heap.size 5 u8E v13 (leB 1 q ++ leB 8 seq ++ (leB 1 name.size ++ bl name) ++ leB 8 n) rfl hO15 x15.heap.size A15 n15 c15 (leB 8 bits) rfl HL15 hbs15 hl15 hz15 ?_; intro v15 w15 ho15 hg15; have HB15 : Hid (Below wb.heap.size wb w15) := HX15.out.trans (below_app hO15 hg15 hz15); have HO15 := Lib.hid ho15; clear y0 y1 y2 y3 y4 y5; have y0 : w15.cell? ⟨w.heap.size, 0, none⟩ = some (.int .u64 (seq : Int)) := (HK.out.below HB15.out HK.out.lt).cellAt 0 (show 0 < 6 by decide); have y1 : w15.cell? ⟨w.heap.size, 1, none⟩ = some (.int .i64 (q : Int)) := (HK.out.below HB15.out HK.out.lt).cellAt 1 (show 1 < 6 by decide); have y2 : w15.cell? ⟨w.heap.size, 2, none⟩ = some (.string name) := (HK.out.below HB15.out HK.out.lt).cellAt 2 (show 2 < 6 by decide); have y3 : w15.cell? ⟨w.heap.size, 3, none⟩ = some (.int .u64 (lease : Int)) := (HK.out.below HB15.out HK.out.lt).cellAt 3 (show 3 < 6 by decide); have y4 : w15.cell? ⟨w.heap.size, 4, none⟩ = some (.int .u64 (n : Int)) := (HK.out.below HB15.out HK.out.lt).cellAt 4 (show 4 < 6 by decide); have y5 : w15.cell? ⟨w.heap.size, 5, none⟩ = some (.int .u64 (bits : Int)) := (HK.out.below HB15.out HK.out.lt).cellAt 5 (show 5 < 6 by decide); clear hO15 ho15 hg15 hbs15 hl15 hz15))
        have HR : Hid (RetO 5 (bytesR ⟨seq, q, name, lease, n, bits⟩) w (.returned v15) w15) := by
          show RetO _ _ _ _ _
          rw [HF.out, HL.out, HN.out, HP.out]
          have h := RetO.of (x := .returned v15) rfl (HO15.out.mono HBB.out.size) (HBB.out.trans (HB15.out.mono HBB.out.size))
          exact h.list (by simp)
        try go_wp2_with fail
        go_ret
        exact HR.out
      | false =>
        have HP := Lib.hid hHP
        clear hHP
        have HR : Hid (RetO 5 (bytesR ⟨seq, q, name, lease, n, bits⟩) w (.returned v13) w14) := by
          show RetO _ _ _ _ _
          rw [HF.out, HL.out, HN.out, HP.out]
          have h := RetO.of (x := .returned v13) rfl (HO14.out.mono HBB.out.size) (HBB.out.trans (HB14.out.mono HBB.out.size))
          exact h.list (by simp)
        try go_wp2_with fail
        go_ret
        exact HR.out
    | false =>
      have HN := Lib.hid hHN
      clear hHN
      try go_wp2_with fail
      refine (rhasB_any (q : Int) w12).mono ?_
      rintro e w16 ⟨rfl, hb16⟩
      have HB16 : Hid (Below wb.heap.size wb w16) := HB12.out.trans (hb16.mono HB12.out.size)
      have HO16 := Lib.hid (HO12.out.below hb16 (Nat.le_refl _))
      clear hb16
      clear y0 y1 y2 y3 y4 y5
      have y0 : w16.cell? ⟨w.heap.size, 0, none⟩ = some (.int .u64 (seq : Int)) := (HK.out.below HB16.out HK.out.lt).cellAt 0 (show 0 < 6 by decide)
      have y1 : w16.cell? ⟨w.heap.size, 1, none⟩ = some (.int .i64 (q : Int)) := (HK.out.below HB16.out HK.out.lt).cellAt 1 (show 1 < 6 by decide)
      have y2 : w16.cell? ⟨w.heap.size, 2, none⟩ = some (.string name) := (HK.out.below HB16.out HK.out.lt).cellAt 2 (show 2 < 6 by decide)
      have y3 : w16.cell? ⟨w.heap.size, 3, none⟩ = some (.int .u64 (lease : Int)) := (HK.out.below HB16.out HK.out.lt).cellAt 3 (show 3 < 6 by decide)
      have y4 : w16.cell? ⟨w.heap.size, 4, none⟩ = some (.int .u64 (n : Int)) := (HK.out.below HB16.out HK.out.lt).cellAt 4 (show 4 < 6 by decide)
      have y5 : w16.cell? ⟨w.heap.size, 5, none⟩ = some (.int .u64 (bits : Int)) := (HK.out.below HB16.out HK.out.lt).cellAt 5 (show 5 < 6 by decide)
      cases hHP : hasBi (q : Int) with
      | true =>
        have HP := Lib.hid hHP
        clear hHP
        try go_wp2_with fail
        refine (HC6.out _).mono ?_
        rintro e x17 ⟨A17, n17, c17, rfl, hn17, hown17, ha17, hc17, hbs17, hb17⟩
        have HX17 : Hid (Below wb.heap.size wb x17) := HB16.out.trans (hb17.mono HB16.out.size)
        have hO17 := HO16.out.below hb17 (Nat.le_refl _)
        have hz17 := HX17.out.size
        have hm17 : (leB 8 bits).length ≤ 65537 := HM6.out
        have hl17 : (leB 1 q ++ leB 8 seq ++ (leB 1 name.size ++ bl name)).length + n17 ≤ 140737488355328 := by
          have h1 := HT3.out
          rw [hn17.out] at hm17
          omega
        have HT17 : Hid ((leB 1 q ++ leB 8 seq ++ (leB 1 name.size ++ bl name) ++ leB 8 bits).length ≤ 262148) := by
          show _ ≤ _
          have h1 := HT3.out
          rw [List.length_append]
          omega
        have HL17 := hn17
        clear hm17
        clear hn17 hown17 ha17 hc17 hb17
        go_wp2_with (first | (refine wp_appB x17 rfl (.tmp 37) (.tmp 40) 32 rfl wb.heap.size 5 u8E v3 (leB 1 q ++ leB 8 seq ++ (leB 1 name.size ++ bl name)) rfl hO17 x17.heap.size A17 n17 c17 (leB 8 bits) rfl HL17 hbs17 hl17 hz17 ?_; intro v17 w17 ho17 hg17; have HB17 : Hid (Below wb.heap.size wb w17) := HX17.out.trans (below_app hO17 hg17 hz17); have HO17 := Lib.hid ho17; clear y0 y1 y2 y3 y4 y5; have y0 : w17.cell? ⟨w.heap.size, 0, none⟩ = some (.int .u64 (seq : Int)) := (HK.out.below HB17.out HK.out.lt).cellAt 0 (show 0 < 6 by decide); have y1 : w17.cell? ⟨w.heap.size, 1, none⟩ = some (.int .i64 (q : Int)) := (HK.out.below HB17.out HK.out.lt).cellAt 1 (show 1 < 6 by decide); have y2 : w17.cell? ⟨w.heap.size, 2, none⟩ = some (.string name) := (HK.out.below HB17.out HK.out.lt).cellAt 2 (show 2 < 6 by decide); have y3 : w17.cell? ⟨w.heap.size, 3, none⟩ = some (.int .u64 (lease : Int)) := (HK.out.below HB17.out HK.out.lt).cellAt 3 (show 3 < 6 by decide); have y4 : w17.cell? ⟨w.heap.size, 4, none⟩ = some (.int .u64 (n : Int)) := (HK.out.below HB17.out HK.out.lt).cellAt 4 (show 4 < 6 by decide); have y5 : w17.cell? ⟨w.heap.size, 5, none⟩ = some (.int .u64 (bits : Int)) := (HK.out.below HB17.out HK.out.lt).cellAt 5 (show 5 < 6 by decide); clear hO17 ho17 hg17 hbs17 hl17 hz17))
        have HR : Hid (RetO 5 (bytesR ⟨seq, q, name, lease, n, bits⟩) w (.returned v17) w17) := by
          show RetO _ _ _ _ _
          rw [HF.out, HL.out, HN.out, HP.out]
          have h := RetO.of (x := .returned v17) rfl (HO17.out.mono HBB.out.size) (HBB.out.trans (HB17.out.mono HBB.out.size))
          exact h.list (by simp)
        try go_wp2_with fail
        go_ret
        exact HR.out
      | false =>
        have HP := Lib.hid hHP
        clear hHP
        have HR : Hid (RetO 5 (bytesR ⟨seq, q, name, lease, n, bits⟩) w (.returned v3) w16) := by
          show RetO _ _ _ _ _
          rw [HF.out, HL.out, HN.out, HP.out]
          have h := RetO.of (x := .returned v3) rfl (HO16.out.mono HBB.out.size) (HBB.out.trans (HB16.out.mono HBB.out.size))
          exact h.list (by simp)
        try go_wp2_with fail
        go_ret
        exact HR.out
end Go.Proofs.YtolpggmcjengcaaDoor

namespace Go.Proofs.YtolpggmcjengcaaDoor
open Go.RowKit
set_option linter.unusedVariables false

theorem ck_kind {r : RecV} (h : kindR r.kind = false) : checkR r = 5 := by unfold checkR; rw [if_pos h]
theorem ck_name {r : RecV} (h : kindR r.kind = true) (h2 : tenantL (bl r.name) = false) : checkR r = 7 := by unfold checkR; rw [if_neg (by rw [h]; decide), if_pos h2]
theorem ck_range {r : RecV} (h : kindR r.kind = true) (h2 : tenantL (bl r.name) = true) (h3 : rangeR r = true) : checkR r = 6 := by unfold checkR; rw [if_neg (by rw [h]; decide), if_neg (by rw [h2]; decide), if_pos h3]
theorem ck_price {r : RecV} (h : kindR r.kind = true) (h2 : tenantL (bl r.name) = true) (h3 : rangeR r = false) (h4 : priceR r = true) : checkR r = 13 := by unfold checkR; rw [if_neg (by rw [h]; decide), if_neg (by rw [h2]; decide), if_neg (by rw [h3]; decide), if_pos h4]
theorem ck_form {r : RecV} (h : kindR r.kind = true) (h2 : tenantL (bl r.name) = true) (h3 : rangeR r = false) (h4 : priceR r = false) (h5 : formR r = true) : checkR r = 2 := by unfold checkR; rw [if_neg (by rw [h]; decide), if_neg (by rw [h2]; decide), if_neg (by rw [h3]; decide), if_neg (by rw [h4]; decide), if_pos h5]
theorem ck_ok {r : RecV} (h : kindR r.kind = true) (h2 : tenantL (bl r.name) = true) (h3 : rangeR r = false) (h4 : priceR r = false) (h5 : formR r = false) : checkR r = 0 := by unfold checkR; rw [if_neg (by rw [h]; decide), if_neg (by rw [h2]; decide), if_neg (by rw [h3]; decide), if_neg (by rw [h4]; decide), if_neg (by rw [h5]; decide)]
theorem eq0 {x : Nat} (h : x = 0) : ((x : Int) == 0) = true := by rw [h]; rfl
theorem eq0_not {x : Nat} (h : x ≠ 0) : ((x : Int) == 0) = false := by rw [beq_eq_false_iff_ne]; omega
theorem ne0 {x : Nat} (h : x ≠ 0) : ((x : Int) != 0) = true := by rw [bne_iff_ne]; omega
theorem ne0_not {x : Nat} (h : x = 0) : ((x : Int) != 0) = false := by rw [h]; rfl

set_option maxRecDepth 100000 in
set_option maxHeartbeats 6400000 in
theorem rcheck_1 (seq lease n bits : Nat) (name : ByteArray) (w : World) (hn : name.size ≤ maxLen) (hb : bits < 18446744073709551616) :
    Calls Tryd.prog 9 #[RecV.val ⟨seq, 1, name, lease, n, bits⟩] w fun e w' => e = .returned (.int .i64 (checkR ⟨seq, 1, name, lease, n, bits⟩)) ∧ Below w.heap.size w w' := by
  show Calls Tryd.prog 9 #[.agg #[.int .u64 (seq : Int), .int .i64 1, .string name, .int .u64 (lease : Int), .int .u64 (n : Int), .int .u64 (bits : Int)]] w fun e w' => e = .returned (.int .i64 (checkR ⟨seq, 1, name, lease, n, bits⟩)) ∧ Below w.heap.size w w'
  obtain ⟨wb, hwb⟩ : ∃ wb, w.alloc (.cells #[.int .u64 (seq : Int), .int .i64 1, .string name, .int .u64 (lease : Int), .int .u64 (n : Int), .int .u64 (bits : Int)] 24) = wb := ⟨_, rfl⟩
  have HK : Hid (Bk wb w.heap.size 24 [.int .u64 (seq : Int), .int .i64 1, .string name, .int .u64 (lease : Int), .int .u64 (n : Int), .int .u64 (bits : Int)]) := by show Bk _ _ _ _; rw [← hwb]; exact Bk.new w _ _
  have HBB : Hid (Below w.heap.size w wb) := by show Below _ _ _; rw [← hwb]; exact (Below.refl _ w).alloc (Nat.le_refl _) _
  have HB0 : Hid (Below wb.heap.size wb wb) := Below.refl _ _
  have HRG : Hid (rangeR ⟨seq, 1, name, lease, n, bits⟩ = (decide (seq = 0) || (false && decide (lease = 0)) || (false && decide (n = 0)))) := rfl
  have HPR : Hid (priceR ⟨seq, 1, name, lease, n, bits⟩ = (false && !(decide (cls bits = 4) || decide (cls bits = 5)))) := rfl
  have HFO : Hid (formR ⟨seq, 1, name, lease, n, bits⟩ = ((!false && !decide (lease = 0)) || (!true && !decide (n = 0)) || (!false && !decide (bits = 0)))) := rfl
  have HT0 := Lib.hid (fun W : World => rtenant_any name W hn)
  have HC0 := Lib.hid (fun W : World => rclass_any bits W hb)
  clear hn hb
  go_enter Tryd.func9, Tryd.ntmps9
  have y0 : wb.cell? ⟨w.heap.size, 0, none⟩ = some (.int .u64 (seq : Int)) := (HK.out.below HB0.out HK.out.lt).cellAt 0 (show 0 < 6 by decide)
  have y1 : wb.cell? ⟨w.heap.size, 1, none⟩ = some (.int .i64 1) := (HK.out.below HB0.out HK.out.lt).cellAt 1 (show 1 < 6 by decide)
  have y2 : wb.cell? ⟨w.heap.size, 2, none⟩ = some (.string name) := (HK.out.below HB0.out HK.out.lt).cellAt 2 (show 2 < 6 by decide)
  have y3 : wb.cell? ⟨w.heap.size, 3, none⟩ = some (.int .u64 (lease : Int)) := (HK.out.below HB0.out HK.out.lt).cellAt 3 (show 3 < 6 by decide)
  have y4 : wb.cell? ⟨w.heap.size, 4, none⟩ = some (.int .u64 (n : Int)) := (HK.out.below HB0.out HK.out.lt).cellAt 4 (show 4 < 6 by decide)
  have y5 : wb.cell? ⟨w.heap.size, 5, none⟩ = some (.int .u64 (bits : Int)) := (HK.out.below HB0.out HK.out.lt).cellAt 5 (show 5 < 6 by decide)
  go_wp2_with fail
  refine (HT0.out _).mono ?_
  rintro e w0 ⟨rfl, rfl⟩
  cases ht : tenantL (bl name) with
  | false =>
    have HTN := Lib.hid ht
    clear ht
    have HE : Hid (checkR ⟨seq, 1, name, lease, n, bits⟩ = 7) := ck_name rfl HTN.out
    try go_wp2_with fail
    go_ret
    exact ⟨by rw [HE.out]; rfl, HBB.out.trans (HB0.out.mono HBB.out.size)⟩
  | true =>
    have HTN := Lib.hid ht
    clear ht
    by_cases hseq : seq = 0
    · have gseq := eq0 hseq
      have Hseq := Lib.hid hseq
      clear hseq
      have HE : Hid (checkR ⟨seq, 1, name, lease, n, bits⟩ = 6) := ck_range rfl HTN.out (by rw [HRG.out]; simp [Hseq.out])
      try go_wp2_with fail
      go_ret
      exact ⟨by rw [HE.out]; rfl, HBB.out.trans (HB0.out.mono HBB.out.size)⟩
    · have gseq := eq0_not hseq
      have Hseq := Lib.hid hseq
      clear hseq
      try go_wp2_with fail
      refine (rhasL_any 1 wb).mono ?_
      rintro e w1 ⟨rfl, hb1⟩
      rw [show hasLe 1 = false from rfl]
      have HB1 : Hid (Below wb.heap.size wb w1) := HB0.out.trans (hb1.mono HB0.out.size)
      clear hb1
      clear y0 y1 y2 y3 y4 y5
      have y0 : w1.cell? ⟨w.heap.size, 0, none⟩ = some (.int .u64 (seq : Int)) := (HK.out.below HB1.out HK.out.lt).cellAt 0 (show 0 < 6 by decide)
      have y1 : w1.cell? ⟨w.heap.size, 1, none⟩ = some (.int .i64 1) := (HK.out.below HB1.out HK.out.lt).cellAt 1 (show 1 < 6 by decide)
      have y2 : w1.cell? ⟨w.heap.size, 2, none⟩ = some (.string name) := (HK.out.below HB1.out HK.out.lt).cellAt 2 (show 2 < 6 by decide)
      have y3 : w1.cell? ⟨w.heap.size, 3, none⟩ = some (.int .u64 (lease : Int)) := (HK.out.below HB1.out HK.out.lt).cellAt 3 (show 3 < 6 by decide)
      have y4 : w1.cell? ⟨w.heap.size, 4, none⟩ = some (.int .u64 (n : Int)) := (HK.out.below HB1.out HK.out.lt).cellAt 4 (show 4 < 6 by decide)
      have y5 : w1.cell? ⟨w.heap.size, 5, none⟩ = some (.int .u64 (bits : Int)) := (HK.out.below HB1.out HK.out.lt).cellAt 5 (show 5 < 6 by decide)
      try go_wp2_with fail
      refine (HC0.out _).mono ?_
      rintro e wc ⟨rfl, rfl⟩
      obtain ⟨c, hc⟩ : ∃ c, cls bits = c := ⟨_, rfl⟩
      rw [hc]
      have HCL := Lib.hid hc
      clear hc
      try go_wp2_with fail
      refine (rhasB_any 1 w1).mono ?_
      rintro e w2 ⟨rfl, hb2⟩
      rw [show hasBi 1 = false from rfl]
      have HB2 : Hid (Below wb.heap.size wb w2) := HB1.out.trans (hb2.mono HB1.out.size)
      clear hb2
      clear y0 y1 y2 y3 y4 y5
      have y0 : w2.cell? ⟨w.heap.size, 0, none⟩ = some (.int .u64 (seq : Int)) := (HK.out.below HB2.out HK.out.lt).cellAt 0 (show 0 < 6 by decide)
      have y1 : w2.cell? ⟨w.heap.size, 1, none⟩ = some (.int .i64 1) := (HK.out.below HB2.out HK.out.lt).cellAt 1 (show 1 < 6 by decide)
      have y2 : w2.cell? ⟨w.heap.size, 2, none⟩ = some (.string name) := (HK.out.below HB2.out HK.out.lt).cellAt 2 (show 2 < 6 by decide)
      have y3 : w2.cell? ⟨w.heap.size, 3, none⟩ = some (.int .u64 (lease : Int)) := (HK.out.below HB2.out HK.out.lt).cellAt 3 (show 3 < 6 by decide)
      have y4 : w2.cell? ⟨w.heap.size, 4, none⟩ = some (.int .u64 (n : Int)) := (HK.out.below HB2.out HK.out.lt).cellAt 4 (show 4 < 6 by decide)
      have y5 : w2.cell? ⟨w.heap.size, 5, none⟩ = some (.int .u64 (bits : Int)) := (HK.out.below HB2.out HK.out.lt).cellAt 5 (show 5 < 6 by decide)
      try go_wp2_with fail
      refine (rhasL_any 1 w2).mono ?_
      rintro e w3 ⟨rfl, hb3⟩
      rw [show hasLe 1 = false from rfl]
      have HB3 : Hid (Below wb.heap.size wb w3) := HB2.out.trans (hb3.mono HB2.out.size)
      clear hb3
      clear y0 y1 y2 y3 y4 y5
      have y0 : w3.cell? ⟨w.heap.size, 0, none⟩ = some (.int .u64 (seq : Int)) := (HK.out.below HB3.out HK.out.lt).cellAt 0 (show 0 < 6 by decide)
      have y1 : w3.cell? ⟨w.heap.size, 1, none⟩ = some (.int .i64 1) := (HK.out.below HB3.out HK.out.lt).cellAt 1 (show 1 < 6 by decide)
      have y2 : w3.cell? ⟨w.heap.size, 2, none⟩ = some (.string name) := (HK.out.below HB3.out HK.out.lt).cellAt 2 (show 2 < 6 by decide)
      have y3 : w3.cell? ⟨w.heap.size, 3, none⟩ = some (.int .u64 (lease : Int)) := (HK.out.below HB3.out HK.out.lt).cellAt 3 (show 3 < 6 by decide)
      have y4 : w3.cell? ⟨w.heap.size, 4, none⟩ = some (.int .u64 (n : Int)) := (HK.out.below HB3.out HK.out.lt).cellAt 4 (show 4 < 6 by decide)
      have y5 : w3.cell? ⟨w.heap.size, 5, none⟩ = some (.int .u64 (bits : Int)) := (HK.out.below HB3.out HK.out.lt).cellAt 5 (show 5 < 6 by decide)
      by_cases hlease : lease = 0
      · have glease := ne0_not hlease
        have Hlease := Lib.hid hlease
        clear hlease
        try go_wp2_with fail
        refine (rhasN_any 1 w3).mono ?_
        rintro e w4 ⟨rfl, hb4⟩
        rw [show hasNu 1 = true from rfl]
        have HB4 : Hid (Below wb.heap.size wb w4) := HB3.out.trans (hb4.mono HB3.out.size)
        clear hb4
        clear y0 y1 y2 y3 y4 y5
        have y0 : w4.cell? ⟨w.heap.size, 0, none⟩ = some (.int .u64 (seq : Int)) := (HK.out.below HB4.out HK.out.lt).cellAt 0 (show 0 < 6 by decide)
        have y1 : w4.cell? ⟨w.heap.size, 1, none⟩ = some (.int .i64 1) := (HK.out.below HB4.out HK.out.lt).cellAt 1 (show 1 < 6 by decide)
        have y2 : w4.cell? ⟨w.heap.size, 2, none⟩ = some (.string name) := (HK.out.below HB4.out HK.out.lt).cellAt 2 (show 2 < 6 by decide)
        have y3 : w4.cell? ⟨w.heap.size, 3, none⟩ = some (.int .u64 (lease : Int)) := (HK.out.below HB4.out HK.out.lt).cellAt 3 (show 3 < 6 by decide)
        have y4 : w4.cell? ⟨w.heap.size, 4, none⟩ = some (.int .u64 (n : Int)) := (HK.out.below HB4.out HK.out.lt).cellAt 4 (show 4 < 6 by decide)
        have y5 : w4.cell? ⟨w.heap.size, 5, none⟩ = some (.int .u64 (bits : Int)) := (HK.out.below HB4.out HK.out.lt).cellAt 5 (show 5 < 6 by decide)
        try go_wp2_with fail
        refine (rhasB_any 1 w4).mono ?_
        rintro e w5 ⟨rfl, hb5⟩
        rw [show hasBi 1 = false from rfl]
        have HB5 : Hid (Below wb.heap.size wb w5) := HB4.out.trans (hb5.mono HB4.out.size)
        clear hb5
        clear y0 y1 y2 y3 y4 y5
        have y0 : w5.cell? ⟨w.heap.size, 0, none⟩ = some (.int .u64 (seq : Int)) := (HK.out.below HB5.out HK.out.lt).cellAt 0 (show 0 < 6 by decide)
        have y1 : w5.cell? ⟨w.heap.size, 1, none⟩ = some (.int .i64 1) := (HK.out.below HB5.out HK.out.lt).cellAt 1 (show 1 < 6 by decide)
        have y2 : w5.cell? ⟨w.heap.size, 2, none⟩ = some (.string name) := (HK.out.below HB5.out HK.out.lt).cellAt 2 (show 2 < 6 by decide)
        have y3 : w5.cell? ⟨w.heap.size, 3, none⟩ = some (.int .u64 (lease : Int)) := (HK.out.below HB5.out HK.out.lt).cellAt 3 (show 3 < 6 by decide)
        have y4 : w5.cell? ⟨w.heap.size, 4, none⟩ = some (.int .u64 (n : Int)) := (HK.out.below HB5.out HK.out.lt).cellAt 4 (show 4 < 6 by decide)
        have y5 : w5.cell? ⟨w.heap.size, 5, none⟩ = some (.int .u64 (bits : Int)) := (HK.out.below HB5.out HK.out.lt).cellAt 5 (show 5 < 6 by decide)
        by_cases hbits : bits = 0
        · have gbits := ne0_not hbits
          have Hbits := Lib.hid hbits
          clear hbits
          have HE : Hid (checkR ⟨seq, 1, name, lease, n, bits⟩ = 0) := ck_ok rfl HTN.out (by rw [HRG.out]; simp [Hseq.out]) (by rw [HPR.out]; rfl) (by rw [HFO.out]; simp [Hlease.out, Hbits.out])
          try go_wp2_with fail
          go_ret
          exact ⟨by rw [HE.out]; rfl, HBB.out.trans (HB5.out.mono HBB.out.size)⟩
        · have gbits := ne0 hbits
          have Hbits := Lib.hid hbits
          clear hbits
          have HE : Hid (checkR ⟨seq, 1, name, lease, n, bits⟩ = 2) := ck_form rfl HTN.out (by rw [HRG.out]; simp [Hseq.out]) (by rw [HPR.out]; rfl) (by rw [HFO.out]; simp [Hbits.out])
          try go_wp2_with fail
          go_ret
          exact ⟨by rw [HE.out]; rfl, HBB.out.trans (HB5.out.mono HBB.out.size)⟩
      · have glease := ne0 hlease
        have Hlease := Lib.hid hlease
        clear hlease
        have HE : Hid (checkR ⟨seq, 1, name, lease, n, bits⟩ = 2) := ck_form rfl HTN.out (by rw [HRG.out]; simp [Hseq.out]) (by rw [HPR.out]; rfl) (by rw [HFO.out]; simp [Hlease.out])
        try go_wp2_with fail
        go_ret
        exact ⟨by rw [HE.out]; rfl, HBB.out.trans (HB3.out.mono HBB.out.size)⟩
set_option maxRecDepth 100000 in
set_option maxHeartbeats 6400000 in
theorem rcheck_2 (seq lease n bits : Nat) (name : ByteArray) (w : World) (hn : name.size ≤ maxLen) (hb : bits < 18446744073709551616) :
    Calls Tryd.prog 9 #[RecV.val ⟨seq, 2, name, lease, n, bits⟩] w fun e w' => e = .returned (.int .i64 (checkR ⟨seq, 2, name, lease, n, bits⟩)) ∧ Below w.heap.size w w' := by
  show Calls Tryd.prog 9 #[.agg #[.int .u64 (seq : Int), .int .i64 2, .string name, .int .u64 (lease : Int), .int .u64 (n : Int), .int .u64 (bits : Int)]] w fun e w' => e = .returned (.int .i64 (checkR ⟨seq, 2, name, lease, n, bits⟩)) ∧ Below w.heap.size w w'
  obtain ⟨wb, hwb⟩ : ∃ wb, w.alloc (.cells #[.int .u64 (seq : Int), .int .i64 2, .string name, .int .u64 (lease : Int), .int .u64 (n : Int), .int .u64 (bits : Int)] 24) = wb := ⟨_, rfl⟩
  have HK : Hid (Bk wb w.heap.size 24 [.int .u64 (seq : Int), .int .i64 2, .string name, .int .u64 (lease : Int), .int .u64 (n : Int), .int .u64 (bits : Int)]) := by show Bk _ _ _ _; rw [← hwb]; exact Bk.new w _ _
  have HBB : Hid (Below w.heap.size w wb) := by show Below _ _ _; rw [← hwb]; exact (Below.refl _ w).alloc (Nat.le_refl _) _
  have HB0 : Hid (Below wb.heap.size wb wb) := Below.refl _ _
  have HRG : Hid (rangeR ⟨seq, 2, name, lease, n, bits⟩ = (decide (seq = 0) || (false && decide (lease = 0)) || (false && decide (n = 0)))) := rfl
  have HPR : Hid (priceR ⟨seq, 2, name, lease, n, bits⟩ = (true && !(decide (cls bits = 4) || decide (cls bits = 5)))) := rfl
  have HFO : Hid (formR ⟨seq, 2, name, lease, n, bits⟩ = ((!false && !decide (lease = 0)) || (!false && !decide (n = 0)) || (!true && !decide (bits = 0)))) := rfl
  have HT0 := Lib.hid (fun W : World => rtenant_any name W hn)
  have HC0 := Lib.hid (fun W : World => rclass_any bits W hb)
  clear hn hb
  go_enter Tryd.func9, Tryd.ntmps9
  have y0 : wb.cell? ⟨w.heap.size, 0, none⟩ = some (.int .u64 (seq : Int)) := (HK.out.below HB0.out HK.out.lt).cellAt 0 (show 0 < 6 by decide)
  have y1 : wb.cell? ⟨w.heap.size, 1, none⟩ = some (.int .i64 2) := (HK.out.below HB0.out HK.out.lt).cellAt 1 (show 1 < 6 by decide)
  have y2 : wb.cell? ⟨w.heap.size, 2, none⟩ = some (.string name) := (HK.out.below HB0.out HK.out.lt).cellAt 2 (show 2 < 6 by decide)
  have y3 : wb.cell? ⟨w.heap.size, 3, none⟩ = some (.int .u64 (lease : Int)) := (HK.out.below HB0.out HK.out.lt).cellAt 3 (show 3 < 6 by decide)
  have y4 : wb.cell? ⟨w.heap.size, 4, none⟩ = some (.int .u64 (n : Int)) := (HK.out.below HB0.out HK.out.lt).cellAt 4 (show 4 < 6 by decide)
  have y5 : wb.cell? ⟨w.heap.size, 5, none⟩ = some (.int .u64 (bits : Int)) := (HK.out.below HB0.out HK.out.lt).cellAt 5 (show 5 < 6 by decide)
  go_wp2_with fail
  refine (HT0.out _).mono ?_
  rintro e w0 ⟨rfl, rfl⟩
  cases ht : tenantL (bl name) with
  | false =>
    have HTN := Lib.hid ht
    clear ht
    have HE : Hid (checkR ⟨seq, 2, name, lease, n, bits⟩ = 7) := ck_name rfl HTN.out
    try go_wp2_with fail
    go_ret
    exact ⟨by rw [HE.out]; rfl, HBB.out.trans (HB0.out.mono HBB.out.size)⟩
  | true =>
    have HTN := Lib.hid ht
    clear ht
    by_cases hseq : seq = 0
    · have gseq := eq0 hseq
      have Hseq := Lib.hid hseq
      clear hseq
      have HE : Hid (checkR ⟨seq, 2, name, lease, n, bits⟩ = 6) := ck_range rfl HTN.out (by rw [HRG.out]; simp [Hseq.out])
      try go_wp2_with fail
      go_ret
      exact ⟨by rw [HE.out]; rfl, HBB.out.trans (HB0.out.mono HBB.out.size)⟩
    · have gseq := eq0_not hseq
      have Hseq := Lib.hid hseq
      clear hseq
      try go_wp2_with fail
      refine (rhasL_any 2 wb).mono ?_
      rintro e w1 ⟨rfl, hb1⟩
      rw [show hasLe 2 = false from rfl]
      have HB1 : Hid (Below wb.heap.size wb w1) := HB0.out.trans (hb1.mono HB0.out.size)
      clear hb1
      clear y0 y1 y2 y3 y4 y5
      have y0 : w1.cell? ⟨w.heap.size, 0, none⟩ = some (.int .u64 (seq : Int)) := (HK.out.below HB1.out HK.out.lt).cellAt 0 (show 0 < 6 by decide)
      have y1 : w1.cell? ⟨w.heap.size, 1, none⟩ = some (.int .i64 2) := (HK.out.below HB1.out HK.out.lt).cellAt 1 (show 1 < 6 by decide)
      have y2 : w1.cell? ⟨w.heap.size, 2, none⟩ = some (.string name) := (HK.out.below HB1.out HK.out.lt).cellAt 2 (show 2 < 6 by decide)
      have y3 : w1.cell? ⟨w.heap.size, 3, none⟩ = some (.int .u64 (lease : Int)) := (HK.out.below HB1.out HK.out.lt).cellAt 3 (show 3 < 6 by decide)
      have y4 : w1.cell? ⟨w.heap.size, 4, none⟩ = some (.int .u64 (n : Int)) := (HK.out.below HB1.out HK.out.lt).cellAt 4 (show 4 < 6 by decide)
      have y5 : w1.cell? ⟨w.heap.size, 5, none⟩ = some (.int .u64 (bits : Int)) := (HK.out.below HB1.out HK.out.lt).cellAt 5 (show 5 < 6 by decide)
      try go_wp2_with fail
      refine (HC0.out _).mono ?_
      rintro e wc ⟨rfl, rfl⟩
      obtain ⟨c, hc⟩ : ∃ c, cls bits = c := ⟨_, rfl⟩
      rw [hc]
      have HCL := Lib.hid hc
      clear hc
      try go_wp2_with fail
      refine (rhasB_any 2 w1).mono ?_
      rintro e w2 ⟨rfl, hb2⟩
      rw [show hasBi 2 = true from rfl]
      have HB2 : Hid (Below wb.heap.size wb w2) := HB1.out.trans (hb2.mono HB1.out.size)
      clear hb2
      clear y0 y1 y2 y3 y4 y5
      have y0 : w2.cell? ⟨w.heap.size, 0, none⟩ = some (.int .u64 (seq : Int)) := (HK.out.below HB2.out HK.out.lt).cellAt 0 (show 0 < 6 by decide)
      have y1 : w2.cell? ⟨w.heap.size, 1, none⟩ = some (.int .i64 2) := (HK.out.below HB2.out HK.out.lt).cellAt 1 (show 1 < 6 by decide)
      have y2 : w2.cell? ⟨w.heap.size, 2, none⟩ = some (.string name) := (HK.out.below HB2.out HK.out.lt).cellAt 2 (show 2 < 6 by decide)
      have y3 : w2.cell? ⟨w.heap.size, 3, none⟩ = some (.int .u64 (lease : Int)) := (HK.out.below HB2.out HK.out.lt).cellAt 3 (show 3 < 6 by decide)
      have y4 : w2.cell? ⟨w.heap.size, 4, none⟩ = some (.int .u64 (n : Int)) := (HK.out.below HB2.out HK.out.lt).cellAt 4 (show 4 < 6 by decide)
      have y5 : w2.cell? ⟨w.heap.size, 5, none⟩ = some (.int .u64 (bits : Int)) := (HK.out.below HB2.out HK.out.lt).cellAt 5 (show 5 < 6 by decide)
      by_cases h4 : c = 4
      · subst h4
        try go_wp2_with fail
        refine (rhasL_any 2 w2).mono ?_
        rintro e w3 ⟨rfl, hb3⟩
        rw [show hasLe 2 = false from rfl]
        have HB3 : Hid (Below wb.heap.size wb w3) := HB2.out.trans (hb3.mono HB2.out.size)
        clear hb3
        clear y0 y1 y2 y3 y4 y5
        have y0 : w3.cell? ⟨w.heap.size, 0, none⟩ = some (.int .u64 (seq : Int)) := (HK.out.below HB3.out HK.out.lt).cellAt 0 (show 0 < 6 by decide)
        have y1 : w3.cell? ⟨w.heap.size, 1, none⟩ = some (.int .i64 2) := (HK.out.below HB3.out HK.out.lt).cellAt 1 (show 1 < 6 by decide)
        have y2 : w3.cell? ⟨w.heap.size, 2, none⟩ = some (.string name) := (HK.out.below HB3.out HK.out.lt).cellAt 2 (show 2 < 6 by decide)
        have y3 : w3.cell? ⟨w.heap.size, 3, none⟩ = some (.int .u64 (lease : Int)) := (HK.out.below HB3.out HK.out.lt).cellAt 3 (show 3 < 6 by decide)
        have y4 : w3.cell? ⟨w.heap.size, 4, none⟩ = some (.int .u64 (n : Int)) := (HK.out.below HB3.out HK.out.lt).cellAt 4 (show 4 < 6 by decide)
        have y5 : w3.cell? ⟨w.heap.size, 5, none⟩ = some (.int .u64 (bits : Int)) := (HK.out.below HB3.out HK.out.lt).cellAt 5 (show 5 < 6 by decide)
        by_cases hlease : lease = 0
        · have glease := ne0_not hlease
          have Hlease := Lib.hid hlease
          clear hlease
          try go_wp2_with fail
          refine (rhasN_any 2 w3).mono ?_
          rintro e w4 ⟨rfl, hb4⟩
          rw [show hasNu 2 = false from rfl]
          have HB4 : Hid (Below wb.heap.size wb w4) := HB3.out.trans (hb4.mono HB3.out.size)
          clear hb4
          clear y0 y1 y2 y3 y4 y5
          have y0 : w4.cell? ⟨w.heap.size, 0, none⟩ = some (.int .u64 (seq : Int)) := (HK.out.below HB4.out HK.out.lt).cellAt 0 (show 0 < 6 by decide)
          have y1 : w4.cell? ⟨w.heap.size, 1, none⟩ = some (.int .i64 2) := (HK.out.below HB4.out HK.out.lt).cellAt 1 (show 1 < 6 by decide)
          have y2 : w4.cell? ⟨w.heap.size, 2, none⟩ = some (.string name) := (HK.out.below HB4.out HK.out.lt).cellAt 2 (show 2 < 6 by decide)
          have y3 : w4.cell? ⟨w.heap.size, 3, none⟩ = some (.int .u64 (lease : Int)) := (HK.out.below HB4.out HK.out.lt).cellAt 3 (show 3 < 6 by decide)
          have y4 : w4.cell? ⟨w.heap.size, 4, none⟩ = some (.int .u64 (n : Int)) := (HK.out.below HB4.out HK.out.lt).cellAt 4 (show 4 < 6 by decide)
          have y5 : w4.cell? ⟨w.heap.size, 5, none⟩ = some (.int .u64 (bits : Int)) := (HK.out.below HB4.out HK.out.lt).cellAt 5 (show 5 < 6 by decide)
          by_cases hn : n = 0
          · have gn := ne0_not hn
            have Hn := Lib.hid hn
            clear hn
            try go_wp2_with fail
            refine (rhasB_any 2 w4).mono ?_
            rintro e w5 ⟨rfl, hb5⟩
            rw [show hasBi 2 = true from rfl]
            have HB5 : Hid (Below wb.heap.size wb w5) := HB4.out.trans (hb5.mono HB4.out.size)
            clear hb5
            clear y0 y1 y2 y3 y4 y5
            have y0 : w5.cell? ⟨w.heap.size, 0, none⟩ = some (.int .u64 (seq : Int)) := (HK.out.below HB5.out HK.out.lt).cellAt 0 (show 0 < 6 by decide)
            have y1 : w5.cell? ⟨w.heap.size, 1, none⟩ = some (.int .i64 2) := (HK.out.below HB5.out HK.out.lt).cellAt 1 (show 1 < 6 by decide)
            have y2 : w5.cell? ⟨w.heap.size, 2, none⟩ = some (.string name) := (HK.out.below HB5.out HK.out.lt).cellAt 2 (show 2 < 6 by decide)
            have y3 : w5.cell? ⟨w.heap.size, 3, none⟩ = some (.int .u64 (lease : Int)) := (HK.out.below HB5.out HK.out.lt).cellAt 3 (show 3 < 6 by decide)
            have y4 : w5.cell? ⟨w.heap.size, 4, none⟩ = some (.int .u64 (n : Int)) := (HK.out.below HB5.out HK.out.lt).cellAt 4 (show 4 < 6 by decide)
            have y5 : w5.cell? ⟨w.heap.size, 5, none⟩ = some (.int .u64 (bits : Int)) := (HK.out.below HB5.out HK.out.lt).cellAt 5 (show 5 < 6 by decide)
            have HE : Hid (checkR ⟨seq, 2, name, lease, n, bits⟩ = 0) := ck_ok rfl HTN.out (by rw [HRG.out]; simp [Hseq.out]) (by rw [HPR.out, HCL.out]; rfl) (by rw [HFO.out]; simp [Hlease.out, Hn.out])
            try go_wp2_with fail
            go_ret
            exact ⟨by rw [HE.out]; rfl, HBB.out.trans (HB5.out.mono HBB.out.size)⟩
          · have gn := ne0 hn
            have Hn := Lib.hid hn
            clear hn
            have HE : Hid (checkR ⟨seq, 2, name, lease, n, bits⟩ = 2) := ck_form rfl HTN.out (by rw [HRG.out]; simp [Hseq.out]) (by rw [HPR.out, HCL.out]; rfl) (by rw [HFO.out]; simp [Hn.out])
            try go_wp2_with fail
            go_ret
            exact ⟨by rw [HE.out]; rfl, HBB.out.trans (HB4.out.mono HBB.out.size)⟩
        · have glease := ne0 hlease
          have Hlease := Lib.hid hlease
          clear hlease
          have HE : Hid (checkR ⟨seq, 2, name, lease, n, bits⟩ = 2) := ck_form rfl HTN.out (by rw [HRG.out]; simp [Hseq.out]) (by rw [HPR.out, HCL.out]; rfl) (by rw [HFO.out]; simp [Hlease.out])
          try go_wp2_with fail
          go_ret
          exact ⟨by rw [HE.out]; rfl, HBB.out.trans (HB3.out.mono HBB.out.size)⟩
      · have g4 : ((c : Int) != 4) = true := by rw [bne_iff_ne]; omega
        by_cases h5 : c = 5
        · subst h5
          try go_wp2_with fail
          refine (rhasL_any 2 w2).mono ?_
          rintro e w6 ⟨rfl, hb6⟩
          rw [show hasLe 2 = false from rfl]
          have HB6 : Hid (Below wb.heap.size wb w6) := HB2.out.trans (hb6.mono HB2.out.size)
          clear hb6
          clear y0 y1 y2 y3 y4 y5
          have y0 : w6.cell? ⟨w.heap.size, 0, none⟩ = some (.int .u64 (seq : Int)) := (HK.out.below HB6.out HK.out.lt).cellAt 0 (show 0 < 6 by decide)
          have y1 : w6.cell? ⟨w.heap.size, 1, none⟩ = some (.int .i64 2) := (HK.out.below HB6.out HK.out.lt).cellAt 1 (show 1 < 6 by decide)
          have y2 : w6.cell? ⟨w.heap.size, 2, none⟩ = some (.string name) := (HK.out.below HB6.out HK.out.lt).cellAt 2 (show 2 < 6 by decide)
          have y3 : w6.cell? ⟨w.heap.size, 3, none⟩ = some (.int .u64 (lease : Int)) := (HK.out.below HB6.out HK.out.lt).cellAt 3 (show 3 < 6 by decide)
          have y4 : w6.cell? ⟨w.heap.size, 4, none⟩ = some (.int .u64 (n : Int)) := (HK.out.below HB6.out HK.out.lt).cellAt 4 (show 4 < 6 by decide)
          have y5 : w6.cell? ⟨w.heap.size, 5, none⟩ = some (.int .u64 (bits : Int)) := (HK.out.below HB6.out HK.out.lt).cellAt 5 (show 5 < 6 by decide)
          by_cases hlease : lease = 0
          · have glease := ne0_not hlease
            have Hlease := Lib.hid hlease
            clear hlease
            try go_wp2_with fail
            refine (rhasN_any 2 w6).mono ?_
            rintro e w7 ⟨rfl, hb7⟩
            rw [show hasNu 2 = false from rfl]
            have HB7 : Hid (Below wb.heap.size wb w7) := HB6.out.trans (hb7.mono HB6.out.size)
            clear hb7
            clear y0 y1 y2 y3 y4 y5
            have y0 : w7.cell? ⟨w.heap.size, 0, none⟩ = some (.int .u64 (seq : Int)) := (HK.out.below HB7.out HK.out.lt).cellAt 0 (show 0 < 6 by decide)
            have y1 : w7.cell? ⟨w.heap.size, 1, none⟩ = some (.int .i64 2) := (HK.out.below HB7.out HK.out.lt).cellAt 1 (show 1 < 6 by decide)
            have y2 : w7.cell? ⟨w.heap.size, 2, none⟩ = some (.string name) := (HK.out.below HB7.out HK.out.lt).cellAt 2 (show 2 < 6 by decide)
            have y3 : w7.cell? ⟨w.heap.size, 3, none⟩ = some (.int .u64 (lease : Int)) := (HK.out.below HB7.out HK.out.lt).cellAt 3 (show 3 < 6 by decide)
            have y4 : w7.cell? ⟨w.heap.size, 4, none⟩ = some (.int .u64 (n : Int)) := (HK.out.below HB7.out HK.out.lt).cellAt 4 (show 4 < 6 by decide)
            have y5 : w7.cell? ⟨w.heap.size, 5, none⟩ = some (.int .u64 (bits : Int)) := (HK.out.below HB7.out HK.out.lt).cellAt 5 (show 5 < 6 by decide)
            by_cases hn : n = 0
            · have gn := ne0_not hn
              have Hn := Lib.hid hn
              clear hn
              try go_wp2_with fail
              refine (rhasB_any 2 w7).mono ?_
              rintro e w8 ⟨rfl, hb8⟩
              rw [show hasBi 2 = true from rfl]
              have HB8 : Hid (Below wb.heap.size wb w8) := HB7.out.trans (hb8.mono HB7.out.size)
              clear hb8
              clear y0 y1 y2 y3 y4 y5
              have y0 : w8.cell? ⟨w.heap.size, 0, none⟩ = some (.int .u64 (seq : Int)) := (HK.out.below HB8.out HK.out.lt).cellAt 0 (show 0 < 6 by decide)
              have y1 : w8.cell? ⟨w.heap.size, 1, none⟩ = some (.int .i64 2) := (HK.out.below HB8.out HK.out.lt).cellAt 1 (show 1 < 6 by decide)
              have y2 : w8.cell? ⟨w.heap.size, 2, none⟩ = some (.string name) := (HK.out.below HB8.out HK.out.lt).cellAt 2 (show 2 < 6 by decide)
              have y3 : w8.cell? ⟨w.heap.size, 3, none⟩ = some (.int .u64 (lease : Int)) := (HK.out.below HB8.out HK.out.lt).cellAt 3 (show 3 < 6 by decide)
              have y4 : w8.cell? ⟨w.heap.size, 4, none⟩ = some (.int .u64 (n : Int)) := (HK.out.below HB8.out HK.out.lt).cellAt 4 (show 4 < 6 by decide)
              have y5 : w8.cell? ⟨w.heap.size, 5, none⟩ = some (.int .u64 (bits : Int)) := (HK.out.below HB8.out HK.out.lt).cellAt 5 (show 5 < 6 by decide)
              have HE : Hid (checkR ⟨seq, 2, name, lease, n, bits⟩ = 0) := ck_ok rfl HTN.out (by rw [HRG.out]; simp [Hseq.out]) (by rw [HPR.out, HCL.out]; rfl) (by rw [HFO.out]; simp [Hlease.out, Hn.out])
              try go_wp2_with fail
              go_ret
              exact ⟨by rw [HE.out]; rfl, HBB.out.trans (HB8.out.mono HBB.out.size)⟩
            · have gn := ne0 hn
              have Hn := Lib.hid hn
              clear hn
              have HE : Hid (checkR ⟨seq, 2, name, lease, n, bits⟩ = 2) := ck_form rfl HTN.out (by rw [HRG.out]; simp [Hseq.out]) (by rw [HPR.out, HCL.out]; rfl) (by rw [HFO.out]; simp [Hn.out])
              try go_wp2_with fail
              go_ret
              exact ⟨by rw [HE.out]; rfl, HBB.out.trans (HB7.out.mono HBB.out.size)⟩
          · have glease := ne0 hlease
            have Hlease := Lib.hid hlease
            clear hlease
            have HE : Hid (checkR ⟨seq, 2, name, lease, n, bits⟩ = 2) := ck_form rfl HTN.out (by rw [HRG.out]; simp [Hseq.out]) (by rw [HPR.out, HCL.out]; rfl) (by rw [HFO.out]; simp [Hlease.out])
            try go_wp2_with fail
            go_ret
            exact ⟨by rw [HE.out]; rfl, HBB.out.trans (HB6.out.mono HBB.out.size)⟩
        · have g5 : ((c : Int) != 5) = true := by rw [bne_iff_ne]; omega
          have H4 := Lib.hid h4
          have H5 := Lib.hid h5
          clear h4 h5
          have HE : Hid (checkR ⟨seq, 2, name, lease, n, bits⟩ = 13) := ck_price rfl HTN.out (by rw [HRG.out]; simp [Hseq.out]) (by rw [HPR.out, HCL.out]; simp [H4.out, H5.out])
          try go_wp2_with fail
          go_ret
          exact ⟨by rw [HE.out]; rfl, HBB.out.trans (HB2.out.mono HBB.out.size)⟩
set_option maxRecDepth 100000 in
set_option maxHeartbeats 6400000 in
theorem rcheck_3 (seq lease n bits : Nat) (name : ByteArray) (w : World) (hn : name.size ≤ maxLen) (hb : bits < 18446744073709551616) :
    Calls Tryd.prog 9 #[RecV.val ⟨seq, 3, name, lease, n, bits⟩] w fun e w' => e = .returned (.int .i64 (checkR ⟨seq, 3, name, lease, n, bits⟩)) ∧ Below w.heap.size w w' := by
  show Calls Tryd.prog 9 #[.agg #[.int .u64 (seq : Int), .int .i64 3, .string name, .int .u64 (lease : Int), .int .u64 (n : Int), .int .u64 (bits : Int)]] w fun e w' => e = .returned (.int .i64 (checkR ⟨seq, 3, name, lease, n, bits⟩)) ∧ Below w.heap.size w w'
  obtain ⟨wb, hwb⟩ : ∃ wb, w.alloc (.cells #[.int .u64 (seq : Int), .int .i64 3, .string name, .int .u64 (lease : Int), .int .u64 (n : Int), .int .u64 (bits : Int)] 24) = wb := ⟨_, rfl⟩
  have HK : Hid (Bk wb w.heap.size 24 [.int .u64 (seq : Int), .int .i64 3, .string name, .int .u64 (lease : Int), .int .u64 (n : Int), .int .u64 (bits : Int)]) := by show Bk _ _ _ _; rw [← hwb]; exact Bk.new w _ _
  have HBB : Hid (Below w.heap.size w wb) := by show Below _ _ _; rw [← hwb]; exact (Below.refl _ w).alloc (Nat.le_refl _) _
  have HB0 : Hid (Below wb.heap.size wb wb) := Below.refl _ _
  have HRG : Hid (rangeR ⟨seq, 3, name, lease, n, bits⟩ = (decide (seq = 0) || (true && decide (lease = 0)) || (true && decide (n = 0)))) := rfl
  have HPR : Hid (priceR ⟨seq, 3, name, lease, n, bits⟩ = (false && !(decide (cls bits = 4) || decide (cls bits = 5)))) := rfl
  have HFO : Hid (formR ⟨seq, 3, name, lease, n, bits⟩ = ((!true && !decide (lease = 0)) || (!true && !decide (n = 0)) || (!false && !decide (bits = 0)))) := rfl
  have HT0 := Lib.hid (fun W : World => rtenant_any name W hn)
  have HC0 := Lib.hid (fun W : World => rclass_any bits W hb)
  clear hn hb
  go_enter Tryd.func9, Tryd.ntmps9
  have y0 : wb.cell? ⟨w.heap.size, 0, none⟩ = some (.int .u64 (seq : Int)) := (HK.out.below HB0.out HK.out.lt).cellAt 0 (show 0 < 6 by decide)
  have y1 : wb.cell? ⟨w.heap.size, 1, none⟩ = some (.int .i64 3) := (HK.out.below HB0.out HK.out.lt).cellAt 1 (show 1 < 6 by decide)
  have y2 : wb.cell? ⟨w.heap.size, 2, none⟩ = some (.string name) := (HK.out.below HB0.out HK.out.lt).cellAt 2 (show 2 < 6 by decide)
  have y3 : wb.cell? ⟨w.heap.size, 3, none⟩ = some (.int .u64 (lease : Int)) := (HK.out.below HB0.out HK.out.lt).cellAt 3 (show 3 < 6 by decide)
  have y4 : wb.cell? ⟨w.heap.size, 4, none⟩ = some (.int .u64 (n : Int)) := (HK.out.below HB0.out HK.out.lt).cellAt 4 (show 4 < 6 by decide)
  have y5 : wb.cell? ⟨w.heap.size, 5, none⟩ = some (.int .u64 (bits : Int)) := (HK.out.below HB0.out HK.out.lt).cellAt 5 (show 5 < 6 by decide)
  go_wp2_with fail
  refine (HT0.out _).mono ?_
  rintro e w0 ⟨rfl, rfl⟩
  cases ht : tenantL (bl name) with
  | false =>
    have HTN := Lib.hid ht
    clear ht
    have HE : Hid (checkR ⟨seq, 3, name, lease, n, bits⟩ = 7) := ck_name rfl HTN.out
    try go_wp2_with fail
    go_ret
    exact ⟨by rw [HE.out]; rfl, HBB.out.trans (HB0.out.mono HBB.out.size)⟩
  | true =>
    have HTN := Lib.hid ht
    clear ht
    by_cases hseq : seq = 0
    · have gseq := eq0 hseq
      have Hseq := Lib.hid hseq
      clear hseq
      have HE : Hid (checkR ⟨seq, 3, name, lease, n, bits⟩ = 6) := ck_range rfl HTN.out (by rw [HRG.out]; simp [Hseq.out])
      try go_wp2_with fail
      go_ret
      exact ⟨by rw [HE.out]; rfl, HBB.out.trans (HB0.out.mono HBB.out.size)⟩
    · have gseq := eq0_not hseq
      have Hseq := Lib.hid hseq
      clear hseq
      try go_wp2_with fail
      refine (rhasL_any 3 wb).mono ?_
      rintro e w1 ⟨rfl, hb1⟩
      rw [show hasLe 3 = true from rfl]
      have HB1 : Hid (Below wb.heap.size wb w1) := HB0.out.trans (hb1.mono HB0.out.size)
      clear hb1
      clear y0 y1 y2 y3 y4 y5
      have y0 : w1.cell? ⟨w.heap.size, 0, none⟩ = some (.int .u64 (seq : Int)) := (HK.out.below HB1.out HK.out.lt).cellAt 0 (show 0 < 6 by decide)
      have y1 : w1.cell? ⟨w.heap.size, 1, none⟩ = some (.int .i64 3) := (HK.out.below HB1.out HK.out.lt).cellAt 1 (show 1 < 6 by decide)
      have y2 : w1.cell? ⟨w.heap.size, 2, none⟩ = some (.string name) := (HK.out.below HB1.out HK.out.lt).cellAt 2 (show 2 < 6 by decide)
      have y3 : w1.cell? ⟨w.heap.size, 3, none⟩ = some (.int .u64 (lease : Int)) := (HK.out.below HB1.out HK.out.lt).cellAt 3 (show 3 < 6 by decide)
      have y4 : w1.cell? ⟨w.heap.size, 4, none⟩ = some (.int .u64 (n : Int)) := (HK.out.below HB1.out HK.out.lt).cellAt 4 (show 4 < 6 by decide)
      have y5 : w1.cell? ⟨w.heap.size, 5, none⟩ = some (.int .u64 (bits : Int)) := (HK.out.below HB1.out HK.out.lt).cellAt 5 (show 5 < 6 by decide)
      by_cases hlease : lease = 0
      · have glease := eq0 hlease
        have Hlease := Lib.hid hlease
        clear hlease
        have HE : Hid (checkR ⟨seq, 3, name, lease, n, bits⟩ = 6) := ck_range rfl HTN.out (by rw [HRG.out]; simp [Hlease.out])
        try go_wp2_with fail
        go_ret
        exact ⟨by rw [HE.out]; rfl, HBB.out.trans (HB1.out.mono HBB.out.size)⟩
      · have glease := eq0_not hlease
        have Hlease := Lib.hid hlease
        clear hlease
        by_cases hn : n = 0
        · have gn := eq0 hn
          have Hn := Lib.hid hn
          clear hn
          have HE : Hid (checkR ⟨seq, 3, name, lease, n, bits⟩ = 6) := ck_range rfl HTN.out (by rw [HRG.out]; simp [Hn.out])
          try go_wp2_with fail
          go_ret
          exact ⟨by rw [HE.out]; rfl, HBB.out.trans (HB1.out.mono HBB.out.size)⟩
        · have gn := eq0_not hn
          have Hn := Lib.hid hn
          clear hn
          try go_wp2_with fail
          refine (HC0.out _).mono ?_
          rintro e wc ⟨rfl, rfl⟩
          obtain ⟨c, hc⟩ : ∃ c, cls bits = c := ⟨_, rfl⟩
          rw [hc]
          have HCL := Lib.hid hc
          clear hc
          try go_wp2_with fail
          refine (rhasB_any 3 w1).mono ?_
          rintro e w2 ⟨rfl, hb2⟩
          rw [show hasBi 3 = false from rfl]
          have HB2 : Hid (Below wb.heap.size wb w2) := HB1.out.trans (hb2.mono HB1.out.size)
          clear hb2
          clear y0 y1 y2 y3 y4 y5
          have y0 : w2.cell? ⟨w.heap.size, 0, none⟩ = some (.int .u64 (seq : Int)) := (HK.out.below HB2.out HK.out.lt).cellAt 0 (show 0 < 6 by decide)
          have y1 : w2.cell? ⟨w.heap.size, 1, none⟩ = some (.int .i64 3) := (HK.out.below HB2.out HK.out.lt).cellAt 1 (show 1 < 6 by decide)
          have y2 : w2.cell? ⟨w.heap.size, 2, none⟩ = some (.string name) := (HK.out.below HB2.out HK.out.lt).cellAt 2 (show 2 < 6 by decide)
          have y3 : w2.cell? ⟨w.heap.size, 3, none⟩ = some (.int .u64 (lease : Int)) := (HK.out.below HB2.out HK.out.lt).cellAt 3 (show 3 < 6 by decide)
          have y4 : w2.cell? ⟨w.heap.size, 4, none⟩ = some (.int .u64 (n : Int)) := (HK.out.below HB2.out HK.out.lt).cellAt 4 (show 4 < 6 by decide)
          have y5 : w2.cell? ⟨w.heap.size, 5, none⟩ = some (.int .u64 (bits : Int)) := (HK.out.below HB2.out HK.out.lt).cellAt 5 (show 5 < 6 by decide)
          try go_wp2_with fail
          refine (rhasL_any 3 w2).mono ?_
          rintro e w3 ⟨rfl, hb3⟩
          rw [show hasLe 3 = true from rfl]
          have HB3 : Hid (Below wb.heap.size wb w3) := HB2.out.trans (hb3.mono HB2.out.size)
          clear hb3
          clear y0 y1 y2 y3 y4 y5
          have y0 : w3.cell? ⟨w.heap.size, 0, none⟩ = some (.int .u64 (seq : Int)) := (HK.out.below HB3.out HK.out.lt).cellAt 0 (show 0 < 6 by decide)
          have y1 : w3.cell? ⟨w.heap.size, 1, none⟩ = some (.int .i64 3) := (HK.out.below HB3.out HK.out.lt).cellAt 1 (show 1 < 6 by decide)
          have y2 : w3.cell? ⟨w.heap.size, 2, none⟩ = some (.string name) := (HK.out.below HB3.out HK.out.lt).cellAt 2 (show 2 < 6 by decide)
          have y3 : w3.cell? ⟨w.heap.size, 3, none⟩ = some (.int .u64 (lease : Int)) := (HK.out.below HB3.out HK.out.lt).cellAt 3 (show 3 < 6 by decide)
          have y4 : w3.cell? ⟨w.heap.size, 4, none⟩ = some (.int .u64 (n : Int)) := (HK.out.below HB3.out HK.out.lt).cellAt 4 (show 4 < 6 by decide)
          have y5 : w3.cell? ⟨w.heap.size, 5, none⟩ = some (.int .u64 (bits : Int)) := (HK.out.below HB3.out HK.out.lt).cellAt 5 (show 5 < 6 by decide)
          try go_wp2_with fail
          refine (rhasN_any 3 w3).mono ?_
          rintro e w4 ⟨rfl, hb4⟩
          rw [show hasNu 3 = true from rfl]
          have HB4 : Hid (Below wb.heap.size wb w4) := HB3.out.trans (hb4.mono HB3.out.size)
          clear hb4
          clear y0 y1 y2 y3 y4 y5
          have y0 : w4.cell? ⟨w.heap.size, 0, none⟩ = some (.int .u64 (seq : Int)) := (HK.out.below HB4.out HK.out.lt).cellAt 0 (show 0 < 6 by decide)
          have y1 : w4.cell? ⟨w.heap.size, 1, none⟩ = some (.int .i64 3) := (HK.out.below HB4.out HK.out.lt).cellAt 1 (show 1 < 6 by decide)
          have y2 : w4.cell? ⟨w.heap.size, 2, none⟩ = some (.string name) := (HK.out.below HB4.out HK.out.lt).cellAt 2 (show 2 < 6 by decide)
          have y3 : w4.cell? ⟨w.heap.size, 3, none⟩ = some (.int .u64 (lease : Int)) := (HK.out.below HB4.out HK.out.lt).cellAt 3 (show 3 < 6 by decide)
          have y4 : w4.cell? ⟨w.heap.size, 4, none⟩ = some (.int .u64 (n : Int)) := (HK.out.below HB4.out HK.out.lt).cellAt 4 (show 4 < 6 by decide)
          have y5 : w4.cell? ⟨w.heap.size, 5, none⟩ = some (.int .u64 (bits : Int)) := (HK.out.below HB4.out HK.out.lt).cellAt 5 (show 5 < 6 by decide)
          try go_wp2_with fail
          refine (rhasB_any 3 w4).mono ?_
          rintro e w5 ⟨rfl, hb5⟩
          rw [show hasBi 3 = false from rfl]
          have HB5 : Hid (Below wb.heap.size wb w5) := HB4.out.trans (hb5.mono HB4.out.size)
          clear hb5
          clear y0 y1 y2 y3 y4 y5
          have y0 : w5.cell? ⟨w.heap.size, 0, none⟩ = some (.int .u64 (seq : Int)) := (HK.out.below HB5.out HK.out.lt).cellAt 0 (show 0 < 6 by decide)
          have y1 : w5.cell? ⟨w.heap.size, 1, none⟩ = some (.int .i64 3) := (HK.out.below HB5.out HK.out.lt).cellAt 1 (show 1 < 6 by decide)
          have y2 : w5.cell? ⟨w.heap.size, 2, none⟩ = some (.string name) := (HK.out.below HB5.out HK.out.lt).cellAt 2 (show 2 < 6 by decide)
          have y3 : w5.cell? ⟨w.heap.size, 3, none⟩ = some (.int .u64 (lease : Int)) := (HK.out.below HB5.out HK.out.lt).cellAt 3 (show 3 < 6 by decide)
          have y4 : w5.cell? ⟨w.heap.size, 4, none⟩ = some (.int .u64 (n : Int)) := (HK.out.below HB5.out HK.out.lt).cellAt 4 (show 4 < 6 by decide)
          have y5 : w5.cell? ⟨w.heap.size, 5, none⟩ = some (.int .u64 (bits : Int)) := (HK.out.below HB5.out HK.out.lt).cellAt 5 (show 5 < 6 by decide)
          by_cases hbits : bits = 0
          · have gbits := ne0_not hbits
            have Hbits := Lib.hid hbits
            clear hbits
            have HE : Hid (checkR ⟨seq, 3, name, lease, n, bits⟩ = 0) := ck_ok rfl HTN.out (by rw [HRG.out]; simp [Hseq.out, Hlease.out, Hn.out]) (by rw [HPR.out]; rfl) (by rw [HFO.out]; simp [Hbits.out])
            try go_wp2_with fail
            go_ret
            exact ⟨by rw [HE.out]; rfl, HBB.out.trans (HB5.out.mono HBB.out.size)⟩
          · have gbits := ne0 hbits
            have Hbits := Lib.hid hbits
            clear hbits
            have HE : Hid (checkR ⟨seq, 3, name, lease, n, bits⟩ = 2) := ck_form rfl HTN.out (by rw [HRG.out]; simp [Hseq.out, Hlease.out, Hn.out]) (by rw [HPR.out]; rfl) (by rw [HFO.out]; simp [Hbits.out])
            try go_wp2_with fail
            go_ret
            exact ⟨by rw [HE.out]; rfl, HBB.out.trans (HB5.out.mono HBB.out.size)⟩
set_option maxRecDepth 100000 in
set_option maxHeartbeats 6400000 in
theorem rcheck_4 (seq lease n bits : Nat) (name : ByteArray) (w : World) (hn : name.size ≤ maxLen) (hb : bits < 18446744073709551616) :
    Calls Tryd.prog 9 #[RecV.val ⟨seq, 4, name, lease, n, bits⟩] w fun e w' => e = .returned (.int .i64 (checkR ⟨seq, 4, name, lease, n, bits⟩)) ∧ Below w.heap.size w w' := by
  show Calls Tryd.prog 9 #[.agg #[.int .u64 (seq : Int), .int .i64 4, .string name, .int .u64 (lease : Int), .int .u64 (n : Int), .int .u64 (bits : Int)]] w fun e w' => e = .returned (.int .i64 (checkR ⟨seq, 4, name, lease, n, bits⟩)) ∧ Below w.heap.size w w'
  obtain ⟨wb, hwb⟩ : ∃ wb, w.alloc (.cells #[.int .u64 (seq : Int), .int .i64 4, .string name, .int .u64 (lease : Int), .int .u64 (n : Int), .int .u64 (bits : Int)] 24) = wb := ⟨_, rfl⟩
  have HK : Hid (Bk wb w.heap.size 24 [.int .u64 (seq : Int), .int .i64 4, .string name, .int .u64 (lease : Int), .int .u64 (n : Int), .int .u64 (bits : Int)]) := by show Bk _ _ _ _; rw [← hwb]; exact Bk.new w _ _
  have HBB : Hid (Below w.heap.size w wb) := by show Below _ _ _; rw [← hwb]; exact (Below.refl _ w).alloc (Nat.le_refl _) _
  have HB0 : Hid (Below wb.heap.size wb wb) := Below.refl _ _
  have HRG : Hid (rangeR ⟨seq, 4, name, lease, n, bits⟩ = (decide (seq = 0) || (true && decide (lease = 0)) || (false && decide (n = 0)))) := rfl
  have HPR : Hid (priceR ⟨seq, 4, name, lease, n, bits⟩ = (false && !(decide (cls bits = 4) || decide (cls bits = 5)))) := rfl
  have HFO : Hid (formR ⟨seq, 4, name, lease, n, bits⟩ = ((!true && !decide (lease = 0)) || (!true && !decide (n = 0)) || (!false && !decide (bits = 0)))) := rfl
  have HT0 := Lib.hid (fun W : World => rtenant_any name W hn)
  have HC0 := Lib.hid (fun W : World => rclass_any bits W hb)
  clear hn hb
  go_enter Tryd.func9, Tryd.ntmps9
  have y0 : wb.cell? ⟨w.heap.size, 0, none⟩ = some (.int .u64 (seq : Int)) := (HK.out.below HB0.out HK.out.lt).cellAt 0 (show 0 < 6 by decide)
  have y1 : wb.cell? ⟨w.heap.size, 1, none⟩ = some (.int .i64 4) := (HK.out.below HB0.out HK.out.lt).cellAt 1 (show 1 < 6 by decide)
  have y2 : wb.cell? ⟨w.heap.size, 2, none⟩ = some (.string name) := (HK.out.below HB0.out HK.out.lt).cellAt 2 (show 2 < 6 by decide)
  have y3 : wb.cell? ⟨w.heap.size, 3, none⟩ = some (.int .u64 (lease : Int)) := (HK.out.below HB0.out HK.out.lt).cellAt 3 (show 3 < 6 by decide)
  have y4 : wb.cell? ⟨w.heap.size, 4, none⟩ = some (.int .u64 (n : Int)) := (HK.out.below HB0.out HK.out.lt).cellAt 4 (show 4 < 6 by decide)
  have y5 : wb.cell? ⟨w.heap.size, 5, none⟩ = some (.int .u64 (bits : Int)) := (HK.out.below HB0.out HK.out.lt).cellAt 5 (show 5 < 6 by decide)
  go_wp2_with fail
  refine (HT0.out _).mono ?_
  rintro e w0 ⟨rfl, rfl⟩
  cases ht : tenantL (bl name) with
  | false =>
    have HTN := Lib.hid ht
    clear ht
    have HE : Hid (checkR ⟨seq, 4, name, lease, n, bits⟩ = 7) := ck_name rfl HTN.out
    try go_wp2_with fail
    go_ret
    exact ⟨by rw [HE.out]; rfl, HBB.out.trans (HB0.out.mono HBB.out.size)⟩
  | true =>
    have HTN := Lib.hid ht
    clear ht
    by_cases hseq : seq = 0
    · have gseq := eq0 hseq
      have Hseq := Lib.hid hseq
      clear hseq
      have HE : Hid (checkR ⟨seq, 4, name, lease, n, bits⟩ = 6) := ck_range rfl HTN.out (by rw [HRG.out]; simp [Hseq.out])
      try go_wp2_with fail
      go_ret
      exact ⟨by rw [HE.out]; rfl, HBB.out.trans (HB0.out.mono HBB.out.size)⟩
    · have gseq := eq0_not hseq
      have Hseq := Lib.hid hseq
      clear hseq
      try go_wp2_with fail
      refine (rhasL_any 4 wb).mono ?_
      rintro e w1 ⟨rfl, hb1⟩
      rw [show hasLe 4 = true from rfl]
      have HB1 : Hid (Below wb.heap.size wb w1) := HB0.out.trans (hb1.mono HB0.out.size)
      clear hb1
      clear y0 y1 y2 y3 y4 y5
      have y0 : w1.cell? ⟨w.heap.size, 0, none⟩ = some (.int .u64 (seq : Int)) := (HK.out.below HB1.out HK.out.lt).cellAt 0 (show 0 < 6 by decide)
      have y1 : w1.cell? ⟨w.heap.size, 1, none⟩ = some (.int .i64 4) := (HK.out.below HB1.out HK.out.lt).cellAt 1 (show 1 < 6 by decide)
      have y2 : w1.cell? ⟨w.heap.size, 2, none⟩ = some (.string name) := (HK.out.below HB1.out HK.out.lt).cellAt 2 (show 2 < 6 by decide)
      have y3 : w1.cell? ⟨w.heap.size, 3, none⟩ = some (.int .u64 (lease : Int)) := (HK.out.below HB1.out HK.out.lt).cellAt 3 (show 3 < 6 by decide)
      have y4 : w1.cell? ⟨w.heap.size, 4, none⟩ = some (.int .u64 (n : Int)) := (HK.out.below HB1.out HK.out.lt).cellAt 4 (show 4 < 6 by decide)
      have y5 : w1.cell? ⟨w.heap.size, 5, none⟩ = some (.int .u64 (bits : Int)) := (HK.out.below HB1.out HK.out.lt).cellAt 5 (show 5 < 6 by decide)
      by_cases hlease : lease = 0
      · have glease := eq0 hlease
        have Hlease := Lib.hid hlease
        clear hlease
        have HE : Hid (checkR ⟨seq, 4, name, lease, n, bits⟩ = 6) := ck_range rfl HTN.out (by rw [HRG.out]; simp [Hlease.out])
        try go_wp2_with fail
        go_ret
        exact ⟨by rw [HE.out]; rfl, HBB.out.trans (HB1.out.mono HBB.out.size)⟩
      · have glease := eq0_not hlease
        have Hlease := Lib.hid hlease
        clear hlease
        try go_wp2_with fail
        refine (HC0.out _).mono ?_
        rintro e wc ⟨rfl, rfl⟩
        obtain ⟨c, hc⟩ : ∃ c, cls bits = c := ⟨_, rfl⟩
        rw [hc]
        have HCL := Lib.hid hc
        clear hc
        try go_wp2_with fail
        refine (rhasB_any 4 w1).mono ?_
        rintro e w2 ⟨rfl, hb2⟩
        rw [show hasBi 4 = false from rfl]
        have HB2 : Hid (Below wb.heap.size wb w2) := HB1.out.trans (hb2.mono HB1.out.size)
        clear hb2
        clear y0 y1 y2 y3 y4 y5
        have y0 : w2.cell? ⟨w.heap.size, 0, none⟩ = some (.int .u64 (seq : Int)) := (HK.out.below HB2.out HK.out.lt).cellAt 0 (show 0 < 6 by decide)
        have y1 : w2.cell? ⟨w.heap.size, 1, none⟩ = some (.int .i64 4) := (HK.out.below HB2.out HK.out.lt).cellAt 1 (show 1 < 6 by decide)
        have y2 : w2.cell? ⟨w.heap.size, 2, none⟩ = some (.string name) := (HK.out.below HB2.out HK.out.lt).cellAt 2 (show 2 < 6 by decide)
        have y3 : w2.cell? ⟨w.heap.size, 3, none⟩ = some (.int .u64 (lease : Int)) := (HK.out.below HB2.out HK.out.lt).cellAt 3 (show 3 < 6 by decide)
        have y4 : w2.cell? ⟨w.heap.size, 4, none⟩ = some (.int .u64 (n : Int)) := (HK.out.below HB2.out HK.out.lt).cellAt 4 (show 4 < 6 by decide)
        have y5 : w2.cell? ⟨w.heap.size, 5, none⟩ = some (.int .u64 (bits : Int)) := (HK.out.below HB2.out HK.out.lt).cellAt 5 (show 5 < 6 by decide)
        try go_wp2_with fail
        refine (rhasL_any 4 w2).mono ?_
        rintro e w3 ⟨rfl, hb3⟩
        rw [show hasLe 4 = true from rfl]
        have HB3 : Hid (Below wb.heap.size wb w3) := HB2.out.trans (hb3.mono HB2.out.size)
        clear hb3
        clear y0 y1 y2 y3 y4 y5
        have y0 : w3.cell? ⟨w.heap.size, 0, none⟩ = some (.int .u64 (seq : Int)) := (HK.out.below HB3.out HK.out.lt).cellAt 0 (show 0 < 6 by decide)
        have y1 : w3.cell? ⟨w.heap.size, 1, none⟩ = some (.int .i64 4) := (HK.out.below HB3.out HK.out.lt).cellAt 1 (show 1 < 6 by decide)
        have y2 : w3.cell? ⟨w.heap.size, 2, none⟩ = some (.string name) := (HK.out.below HB3.out HK.out.lt).cellAt 2 (show 2 < 6 by decide)
        have y3 : w3.cell? ⟨w.heap.size, 3, none⟩ = some (.int .u64 (lease : Int)) := (HK.out.below HB3.out HK.out.lt).cellAt 3 (show 3 < 6 by decide)
        have y4 : w3.cell? ⟨w.heap.size, 4, none⟩ = some (.int .u64 (n : Int)) := (HK.out.below HB3.out HK.out.lt).cellAt 4 (show 4 < 6 by decide)
        have y5 : w3.cell? ⟨w.heap.size, 5, none⟩ = some (.int .u64 (bits : Int)) := (HK.out.below HB3.out HK.out.lt).cellAt 5 (show 5 < 6 by decide)
        try go_wp2_with fail
        refine (rhasN_any 4 w3).mono ?_
        rintro e w4 ⟨rfl, hb4⟩
        rw [show hasNu 4 = true from rfl]
        have HB4 : Hid (Below wb.heap.size wb w4) := HB3.out.trans (hb4.mono HB3.out.size)
        clear hb4
        clear y0 y1 y2 y3 y4 y5
        have y0 : w4.cell? ⟨w.heap.size, 0, none⟩ = some (.int .u64 (seq : Int)) := (HK.out.below HB4.out HK.out.lt).cellAt 0 (show 0 < 6 by decide)
        have y1 : w4.cell? ⟨w.heap.size, 1, none⟩ = some (.int .i64 4) := (HK.out.below HB4.out HK.out.lt).cellAt 1 (show 1 < 6 by decide)
        have y2 : w4.cell? ⟨w.heap.size, 2, none⟩ = some (.string name) := (HK.out.below HB4.out HK.out.lt).cellAt 2 (show 2 < 6 by decide)
        have y3 : w4.cell? ⟨w.heap.size, 3, none⟩ = some (.int .u64 (lease : Int)) := (HK.out.below HB4.out HK.out.lt).cellAt 3 (show 3 < 6 by decide)
        have y4 : w4.cell? ⟨w.heap.size, 4, none⟩ = some (.int .u64 (n : Int)) := (HK.out.below HB4.out HK.out.lt).cellAt 4 (show 4 < 6 by decide)
        have y5 : w4.cell? ⟨w.heap.size, 5, none⟩ = some (.int .u64 (bits : Int)) := (HK.out.below HB4.out HK.out.lt).cellAt 5 (show 5 < 6 by decide)
        try go_wp2_with fail
        refine (rhasB_any 4 w4).mono ?_
        rintro e w5 ⟨rfl, hb5⟩
        rw [show hasBi 4 = false from rfl]
        have HB5 : Hid (Below wb.heap.size wb w5) := HB4.out.trans (hb5.mono HB4.out.size)
        clear hb5
        clear y0 y1 y2 y3 y4 y5
        have y0 : w5.cell? ⟨w.heap.size, 0, none⟩ = some (.int .u64 (seq : Int)) := (HK.out.below HB5.out HK.out.lt).cellAt 0 (show 0 < 6 by decide)
        have y1 : w5.cell? ⟨w.heap.size, 1, none⟩ = some (.int .i64 4) := (HK.out.below HB5.out HK.out.lt).cellAt 1 (show 1 < 6 by decide)
        have y2 : w5.cell? ⟨w.heap.size, 2, none⟩ = some (.string name) := (HK.out.below HB5.out HK.out.lt).cellAt 2 (show 2 < 6 by decide)
        have y3 : w5.cell? ⟨w.heap.size, 3, none⟩ = some (.int .u64 (lease : Int)) := (HK.out.below HB5.out HK.out.lt).cellAt 3 (show 3 < 6 by decide)
        have y4 : w5.cell? ⟨w.heap.size, 4, none⟩ = some (.int .u64 (n : Int)) := (HK.out.below HB5.out HK.out.lt).cellAt 4 (show 4 < 6 by decide)
        have y5 : w5.cell? ⟨w.heap.size, 5, none⟩ = some (.int .u64 (bits : Int)) := (HK.out.below HB5.out HK.out.lt).cellAt 5 (show 5 < 6 by decide)
        by_cases hbits : bits = 0
        · have gbits := ne0_not hbits
          have Hbits := Lib.hid hbits
          clear hbits
          have HE : Hid (checkR ⟨seq, 4, name, lease, n, bits⟩ = 0) := ck_ok rfl HTN.out (by rw [HRG.out]; simp [Hseq.out, Hlease.out]) (by rw [HPR.out]; rfl) (by rw [HFO.out]; simp [Hbits.out])
          try go_wp2_with fail
          go_ret
          exact ⟨by rw [HE.out]; rfl, HBB.out.trans (HB5.out.mono HBB.out.size)⟩
        · have gbits := ne0 hbits
          have Hbits := Lib.hid hbits
          clear hbits
          have HE : Hid (checkR ⟨seq, 4, name, lease, n, bits⟩ = 2) := ck_form rfl HTN.out (by rw [HRG.out]; simp [Hseq.out, Hlease.out]) (by rw [HPR.out]; rfl) (by rw [HFO.out]; simp [Hbits.out])
          try go_wp2_with fail
          go_ret
          exact ⟨by rw [HE.out]; rfl, HBB.out.trans (HB5.out.mono HBB.out.size)⟩
set_option maxRecDepth 100000 in
set_option maxHeartbeats 6400000 in
theorem rcheck_5 (seq lease n bits : Nat) (name : ByteArray) (w : World) (hn : name.size ≤ maxLen) (hb : bits < 18446744073709551616) :
    Calls Tryd.prog 9 #[RecV.val ⟨seq, 5, name, lease, n, bits⟩] w fun e w' => e = .returned (.int .i64 (checkR ⟨seq, 5, name, lease, n, bits⟩)) ∧ Below w.heap.size w w' := by
  show Calls Tryd.prog 9 #[.agg #[.int .u64 (seq : Int), .int .i64 5, .string name, .int .u64 (lease : Int), .int .u64 (n : Int), .int .u64 (bits : Int)]] w fun e w' => e = .returned (.int .i64 (checkR ⟨seq, 5, name, lease, n, bits⟩)) ∧ Below w.heap.size w w'
  obtain ⟨wb, hwb⟩ : ∃ wb, w.alloc (.cells #[.int .u64 (seq : Int), .int .i64 5, .string name, .int .u64 (lease : Int), .int .u64 (n : Int), .int .u64 (bits : Int)] 24) = wb := ⟨_, rfl⟩
  have HK : Hid (Bk wb w.heap.size 24 [.int .u64 (seq : Int), .int .i64 5, .string name, .int .u64 (lease : Int), .int .u64 (n : Int), .int .u64 (bits : Int)]) := by show Bk _ _ _ _; rw [← hwb]; exact Bk.new w _ _
  have HBB : Hid (Below w.heap.size w wb) := by show Below _ _ _; rw [← hwb]; exact (Below.refl _ w).alloc (Nat.le_refl _) _
  have HB0 : Hid (Below wb.heap.size wb wb) := Below.refl _ _
  have HRG : Hid (rangeR ⟨seq, 5, name, lease, n, bits⟩ = (decide (seq = 0) || (false && decide (lease = 0)) || (false && decide (n = 0)))) := rfl
  have HPR : Hid (priceR ⟨seq, 5, name, lease, n, bits⟩ = (false && !(decide (cls bits = 4) || decide (cls bits = 5)))) := rfl
  have HFO : Hid (formR ⟨seq, 5, name, lease, n, bits⟩ = ((!false && !decide (lease = 0)) || (!false && !decide (n = 0)) || (!false && !decide (bits = 0)))) := rfl
  have HT0 := Lib.hid (fun W : World => rtenant_any name W hn)
  have HC0 := Lib.hid (fun W : World => rclass_any bits W hb)
  clear hn hb
  go_enter Tryd.func9, Tryd.ntmps9
  have y0 : wb.cell? ⟨w.heap.size, 0, none⟩ = some (.int .u64 (seq : Int)) := (HK.out.below HB0.out HK.out.lt).cellAt 0 (show 0 < 6 by decide)
  have y1 : wb.cell? ⟨w.heap.size, 1, none⟩ = some (.int .i64 5) := (HK.out.below HB0.out HK.out.lt).cellAt 1 (show 1 < 6 by decide)
  have y2 : wb.cell? ⟨w.heap.size, 2, none⟩ = some (.string name) := (HK.out.below HB0.out HK.out.lt).cellAt 2 (show 2 < 6 by decide)
  have y3 : wb.cell? ⟨w.heap.size, 3, none⟩ = some (.int .u64 (lease : Int)) := (HK.out.below HB0.out HK.out.lt).cellAt 3 (show 3 < 6 by decide)
  have y4 : wb.cell? ⟨w.heap.size, 4, none⟩ = some (.int .u64 (n : Int)) := (HK.out.below HB0.out HK.out.lt).cellAt 4 (show 4 < 6 by decide)
  have y5 : wb.cell? ⟨w.heap.size, 5, none⟩ = some (.int .u64 (bits : Int)) := (HK.out.below HB0.out HK.out.lt).cellAt 5 (show 5 < 6 by decide)
  go_wp2_with fail
  refine (HT0.out _).mono ?_
  rintro e w0 ⟨rfl, rfl⟩
  cases ht : tenantL (bl name) with
  | false =>
    have HTN := Lib.hid ht
    clear ht
    have HE : Hid (checkR ⟨seq, 5, name, lease, n, bits⟩ = 7) := ck_name rfl HTN.out
    try go_wp2_with fail
    go_ret
    exact ⟨by rw [HE.out]; rfl, HBB.out.trans (HB0.out.mono HBB.out.size)⟩
  | true =>
    have HTN := Lib.hid ht
    clear ht
    by_cases hseq : seq = 0
    · have gseq := eq0 hseq
      have Hseq := Lib.hid hseq
      clear hseq
      have HE : Hid (checkR ⟨seq, 5, name, lease, n, bits⟩ = 6) := ck_range rfl HTN.out (by rw [HRG.out]; simp [Hseq.out])
      try go_wp2_with fail
      go_ret
      exact ⟨by rw [HE.out]; rfl, HBB.out.trans (HB0.out.mono HBB.out.size)⟩
    · have gseq := eq0_not hseq
      have Hseq := Lib.hid hseq
      clear hseq
      try go_wp2_with fail
      refine (rhasL_any 5 wb).mono ?_
      rintro e w1 ⟨rfl, hb1⟩
      rw [show hasLe 5 = false from rfl]
      have HB1 : Hid (Below wb.heap.size wb w1) := HB0.out.trans (hb1.mono HB0.out.size)
      clear hb1
      clear y0 y1 y2 y3 y4 y5
      have y0 : w1.cell? ⟨w.heap.size, 0, none⟩ = some (.int .u64 (seq : Int)) := (HK.out.below HB1.out HK.out.lt).cellAt 0 (show 0 < 6 by decide)
      have y1 : w1.cell? ⟨w.heap.size, 1, none⟩ = some (.int .i64 5) := (HK.out.below HB1.out HK.out.lt).cellAt 1 (show 1 < 6 by decide)
      have y2 : w1.cell? ⟨w.heap.size, 2, none⟩ = some (.string name) := (HK.out.below HB1.out HK.out.lt).cellAt 2 (show 2 < 6 by decide)
      have y3 : w1.cell? ⟨w.heap.size, 3, none⟩ = some (.int .u64 (lease : Int)) := (HK.out.below HB1.out HK.out.lt).cellAt 3 (show 3 < 6 by decide)
      have y4 : w1.cell? ⟨w.heap.size, 4, none⟩ = some (.int .u64 (n : Int)) := (HK.out.below HB1.out HK.out.lt).cellAt 4 (show 4 < 6 by decide)
      have y5 : w1.cell? ⟨w.heap.size, 5, none⟩ = some (.int .u64 (bits : Int)) := (HK.out.below HB1.out HK.out.lt).cellAt 5 (show 5 < 6 by decide)
      try go_wp2_with fail
      refine (HC0.out _).mono ?_
      rintro e wc ⟨rfl, rfl⟩
      obtain ⟨c, hc⟩ : ∃ c, cls bits = c := ⟨_, rfl⟩
      rw [hc]
      have HCL := Lib.hid hc
      clear hc
      try go_wp2_with fail
      refine (rhasB_any 5 w1).mono ?_
      rintro e w2 ⟨rfl, hb2⟩
      rw [show hasBi 5 = false from rfl]
      have HB2 : Hid (Below wb.heap.size wb w2) := HB1.out.trans (hb2.mono HB1.out.size)
      clear hb2
      clear y0 y1 y2 y3 y4 y5
      have y0 : w2.cell? ⟨w.heap.size, 0, none⟩ = some (.int .u64 (seq : Int)) := (HK.out.below HB2.out HK.out.lt).cellAt 0 (show 0 < 6 by decide)
      have y1 : w2.cell? ⟨w.heap.size, 1, none⟩ = some (.int .i64 5) := (HK.out.below HB2.out HK.out.lt).cellAt 1 (show 1 < 6 by decide)
      have y2 : w2.cell? ⟨w.heap.size, 2, none⟩ = some (.string name) := (HK.out.below HB2.out HK.out.lt).cellAt 2 (show 2 < 6 by decide)
      have y3 : w2.cell? ⟨w.heap.size, 3, none⟩ = some (.int .u64 (lease : Int)) := (HK.out.below HB2.out HK.out.lt).cellAt 3 (show 3 < 6 by decide)
      have y4 : w2.cell? ⟨w.heap.size, 4, none⟩ = some (.int .u64 (n : Int)) := (HK.out.below HB2.out HK.out.lt).cellAt 4 (show 4 < 6 by decide)
      have y5 : w2.cell? ⟨w.heap.size, 5, none⟩ = some (.int .u64 (bits : Int)) := (HK.out.below HB2.out HK.out.lt).cellAt 5 (show 5 < 6 by decide)
      try go_wp2_with fail
      refine (rhasL_any 5 w2).mono ?_
      rintro e w3 ⟨rfl, hb3⟩
      rw [show hasLe 5 = false from rfl]
      have HB3 : Hid (Below wb.heap.size wb w3) := HB2.out.trans (hb3.mono HB2.out.size)
      clear hb3
      clear y0 y1 y2 y3 y4 y5
      have y0 : w3.cell? ⟨w.heap.size, 0, none⟩ = some (.int .u64 (seq : Int)) := (HK.out.below HB3.out HK.out.lt).cellAt 0 (show 0 < 6 by decide)
      have y1 : w3.cell? ⟨w.heap.size, 1, none⟩ = some (.int .i64 5) := (HK.out.below HB3.out HK.out.lt).cellAt 1 (show 1 < 6 by decide)
      have y2 : w3.cell? ⟨w.heap.size, 2, none⟩ = some (.string name) := (HK.out.below HB3.out HK.out.lt).cellAt 2 (show 2 < 6 by decide)
      have y3 : w3.cell? ⟨w.heap.size, 3, none⟩ = some (.int .u64 (lease : Int)) := (HK.out.below HB3.out HK.out.lt).cellAt 3 (show 3 < 6 by decide)
      have y4 : w3.cell? ⟨w.heap.size, 4, none⟩ = some (.int .u64 (n : Int)) := (HK.out.below HB3.out HK.out.lt).cellAt 4 (show 4 < 6 by decide)
      have y5 : w3.cell? ⟨w.heap.size, 5, none⟩ = some (.int .u64 (bits : Int)) := (HK.out.below HB3.out HK.out.lt).cellAt 5 (show 5 < 6 by decide)
      by_cases hlease : lease = 0
      · have glease := ne0_not hlease
        have Hlease := Lib.hid hlease
        clear hlease
        try go_wp2_with fail
        refine (rhasN_any 5 w3).mono ?_
        rintro e w4 ⟨rfl, hb4⟩
        rw [show hasNu 5 = false from rfl]
        have HB4 : Hid (Below wb.heap.size wb w4) := HB3.out.trans (hb4.mono HB3.out.size)
        clear hb4
        clear y0 y1 y2 y3 y4 y5
        have y0 : w4.cell? ⟨w.heap.size, 0, none⟩ = some (.int .u64 (seq : Int)) := (HK.out.below HB4.out HK.out.lt).cellAt 0 (show 0 < 6 by decide)
        have y1 : w4.cell? ⟨w.heap.size, 1, none⟩ = some (.int .i64 5) := (HK.out.below HB4.out HK.out.lt).cellAt 1 (show 1 < 6 by decide)
        have y2 : w4.cell? ⟨w.heap.size, 2, none⟩ = some (.string name) := (HK.out.below HB4.out HK.out.lt).cellAt 2 (show 2 < 6 by decide)
        have y3 : w4.cell? ⟨w.heap.size, 3, none⟩ = some (.int .u64 (lease : Int)) := (HK.out.below HB4.out HK.out.lt).cellAt 3 (show 3 < 6 by decide)
        have y4 : w4.cell? ⟨w.heap.size, 4, none⟩ = some (.int .u64 (n : Int)) := (HK.out.below HB4.out HK.out.lt).cellAt 4 (show 4 < 6 by decide)
        have y5 : w4.cell? ⟨w.heap.size, 5, none⟩ = some (.int .u64 (bits : Int)) := (HK.out.below HB4.out HK.out.lt).cellAt 5 (show 5 < 6 by decide)
        by_cases hn : n = 0
        · have gn := ne0_not hn
          have Hn := Lib.hid hn
          clear hn
          try go_wp2_with fail
          refine (rhasB_any 5 w4).mono ?_
          rintro e w5 ⟨rfl, hb5⟩
          rw [show hasBi 5 = false from rfl]
          have HB5 : Hid (Below wb.heap.size wb w5) := HB4.out.trans (hb5.mono HB4.out.size)
          clear hb5
          clear y0 y1 y2 y3 y4 y5
          have y0 : w5.cell? ⟨w.heap.size, 0, none⟩ = some (.int .u64 (seq : Int)) := (HK.out.below HB5.out HK.out.lt).cellAt 0 (show 0 < 6 by decide)
          have y1 : w5.cell? ⟨w.heap.size, 1, none⟩ = some (.int .i64 5) := (HK.out.below HB5.out HK.out.lt).cellAt 1 (show 1 < 6 by decide)
          have y2 : w5.cell? ⟨w.heap.size, 2, none⟩ = some (.string name) := (HK.out.below HB5.out HK.out.lt).cellAt 2 (show 2 < 6 by decide)
          have y3 : w5.cell? ⟨w.heap.size, 3, none⟩ = some (.int .u64 (lease : Int)) := (HK.out.below HB5.out HK.out.lt).cellAt 3 (show 3 < 6 by decide)
          have y4 : w5.cell? ⟨w.heap.size, 4, none⟩ = some (.int .u64 (n : Int)) := (HK.out.below HB5.out HK.out.lt).cellAt 4 (show 4 < 6 by decide)
          have y5 : w5.cell? ⟨w.heap.size, 5, none⟩ = some (.int .u64 (bits : Int)) := (HK.out.below HB5.out HK.out.lt).cellAt 5 (show 5 < 6 by decide)
          by_cases hbits : bits = 0
          · have gbits := ne0_not hbits
            have Hbits := Lib.hid hbits
            clear hbits
            have HE : Hid (checkR ⟨seq, 5, name, lease, n, bits⟩ = 0) := ck_ok rfl HTN.out (by rw [HRG.out]; simp [Hseq.out]) (by rw [HPR.out]; rfl) (by rw [HFO.out]; simp [Hlease.out, Hn.out, Hbits.out])
            try go_wp2_with fail
            go_ret
            exact ⟨by rw [HE.out]; rfl, HBB.out.trans (HB5.out.mono HBB.out.size)⟩
          · have gbits := ne0 hbits
            have Hbits := Lib.hid hbits
            clear hbits
            have HE : Hid (checkR ⟨seq, 5, name, lease, n, bits⟩ = 2) := ck_form rfl HTN.out (by rw [HRG.out]; simp [Hseq.out]) (by rw [HPR.out]; rfl) (by rw [HFO.out]; simp [Hbits.out])
            try go_wp2_with fail
            go_ret
            exact ⟨by rw [HE.out]; rfl, HBB.out.trans (HB5.out.mono HBB.out.size)⟩
        · have gn := ne0 hn
          have Hn := Lib.hid hn
          clear hn
          have HE : Hid (checkR ⟨seq, 5, name, lease, n, bits⟩ = 2) := ck_form rfl HTN.out (by rw [HRG.out]; simp [Hseq.out]) (by rw [HPR.out]; rfl) (by rw [HFO.out]; simp [Hn.out])
          try go_wp2_with fail
          go_ret
          exact ⟨by rw [HE.out]; rfl, HBB.out.trans (HB4.out.mono HBB.out.size)⟩
      · have glease := ne0 hlease
        have Hlease := Lib.hid hlease
        clear hlease
        have HE : Hid (checkR ⟨seq, 5, name, lease, n, bits⟩ = 2) := ck_form rfl HTN.out (by rw [HRG.out]; simp [Hseq.out]) (by rw [HPR.out]; rfl) (by rw [HFO.out]; simp [Hlease.out])
        try go_wp2_with fail
        go_ret
        exact ⟨by rw [HE.out]; rfl, HBB.out.trans (HB3.out.mono HBB.out.size)⟩
set_option maxRecDepth 100000 in
set_option maxHeartbeats 3200000 in
theorem rcheck_any (r : RecV) (w : World) (hr : r.Ok) :
    Calls Tryd.prog 9 #[r.val] w fun e w' => e = .returned (.int .i64 (checkR r)) ∧ Below w.heap.size w w' := by
  obtain ⟨seq, kind, name, lease, n, bits⟩ := r
  obtain ⟨o1, o2, o3, o4, o5, o6⟩ := hr
  simp only at o1 o2 o3 o4 o5 o6
  cases hk : kindR kind with
  | true =>
    have hk5 := kindR_iff.1 hk
    have : kind = 1 ∨ kind = 2 ∨ kind = 3 ∨ kind = 4 ∨ kind = 5 := by omega
    rcases this with rfl | rfl | rfl | rfl | rfl
    · exact rcheck_1 seq lease n bits name w o3 o6
    · exact rcheck_2 seq lease n bits name w o3 o6
    · exact rcheck_3 seq lease n bits name w o3 o6
    · exact rcheck_4 seq lease n bits name w o3 o6
    · exact rcheck_5 seq lease n bits name w o3 o6
  | false =>
    have HE : Hid (checkR ⟨seq, kind, name, lease, n, bits⟩ = 5) := ck_kind hk
    have hk5 : ¬ (1 ≤ kind ∧ kind ≤ 5) := fun h => by rw [kindR_iff.2 h] at hk; cases hk
    show Calls Tryd.prog 9 #[.agg #[.int .u64 (seq : Int), .int .i64 kind, .string name, .int .u64 (lease : Int), .int .u64 (n : Int), .int .u64 (bits : Int)]] w fun e w' => e = .returned (.int .i64 (checkR ⟨seq, kind, name, lease, n, bits⟩)) ∧ Below w.heap.size w w'
    obtain ⟨wb, hwb⟩ : ∃ wb, w.alloc (.cells #[.int .u64 (seq : Int), .int .i64 kind, .string name, .int .u64 (lease : Int), .int .u64 (n : Int), .int .u64 (bits : Int)] 24) = wb := ⟨_, rfl⟩
    have HK : Hid (Bk wb w.heap.size 24 [.int .u64 (seq : Int), .int .i64 kind, .string name, .int .u64 (lease : Int), .int .u64 (n : Int), .int .u64 (bits : Int)]) := by show Bk _ _ _ _; rw [← hwb]; exact Bk.new w _ _
    have HBB : Hid (Below w.heap.size w wb) := by show Below _ _ _; rw [← hwb]; exact (Below.refl _ w).alloc (Nat.le_refl _) _
    have HB0 : Hid (Below wb.heap.size wb wb) := Below.refl _ _
    clear o1 o2 o3 o4 o5 o6 hk
    have y0 : wb.cell? ⟨w.heap.size, 0, none⟩ = some (.int .u64 (seq : Int)) := (HK.out.below HB0.out HK.out.lt).cellAt 0 (show 0 < 6 by decide)
    have y1 : wb.cell? ⟨w.heap.size, 1, none⟩ = some (.int .i64 kind) := (HK.out.below HB0.out HK.out.lt).cellAt 1 (show 1 < 6 by decide)
    have y2 : wb.cell? ⟨w.heap.size, 2, none⟩ = some (.string name) := (HK.out.below HB0.out HK.out.lt).cellAt 2 (show 2 < 6 by decide)
    have y3 : wb.cell? ⟨w.heap.size, 3, none⟩ = some (.int .u64 (lease : Int)) := (HK.out.below HB0.out HK.out.lt).cellAt 3 (show 3 < 6 by decide)
    have y4 : wb.cell? ⟨w.heap.size, 4, none⟩ = some (.int .u64 (n : Int)) := (HK.out.below HB0.out HK.out.lt).cellAt 4 (show 4 < 6 by decide)
    have y5 : wb.cell? ⟨w.heap.size, 5, none⟩ = some (.int .u64 (bits : Int)) := (HK.out.below HB0.out HK.out.lt).cellAt 5 (show 5 < 6 by decide)
    by_cases h1 : kind < 1
    · have b1 : decide (kind < 1) = true := decide_eq_true h1
      clear hk5 h1
      go_enter Tryd.func9, Tryd.ntmps9
      go_wp2_with fail
      go_ret
      exact ⟨by rw [HE.out]; rfl, HBB.out⟩
    · have b1 : decide (kind < 1) = false := decide_eq_false h1
      have b2 : decide (kind > 5) = true := by rw [decide_eq_true_iff]; omega
      clear hk5 h1
      go_enter Tryd.func9, Tryd.ntmps9
      go_wp2_with fail
      go_ret
      exact ⟨by rw [HE.out]; rfl, HBB.out⟩
end Go.Proofs.YtolpggmcjengcaaDoor
