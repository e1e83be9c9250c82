/-
  Package taximeterref12: Valid, Lists.
-/
import Derived.Test.YtoielghmgjdknaaRef12
namespace Go.Proofs.Ytoielghmgjdknaa
open Go.RowKit
set_option linter.unusedVariables false

/-- A slice of bytes, below block B. -/
def Bl (w : World) (B : Nat) (v : Value) (l : List UInt8) : Prop := ∃ A n c, v = .slice A n c ∧ Hid (l.length = n) ∧ n ≤ c ∧ c ≤ maxLen ∧ Bs w B A l
theorem Bl.below {w w' : World} {B B' : Nat} {v : Value} {l : List UInt8} (h : Bl w B v l) (hb : Below B' w w') (hB : B ≤ B') : Bl w' B v l := by
  obtain ⟨A, n, c, h1, h2, h3, h4, h5⟩ := h
  exact ⟨A, n, c, h1, h2, h3, h4, h5.below hb hB⟩
theorem Bl.more {w : World} {B B' : Nat} {v : Value} {l : List UInt8} (h : Bl w B v l) (hB : B ≤ B') : Bl w B' v l := by
  obtain ⟨A, n, c, h1, h2, h3, h4, h5⟩ := h
  exact ⟨A, n, c, h1, h2, h3, h4, h5.more hB⟩
/-- Values that are slices of bytes. -/
def Vl (w : World) (B : Nat) (vs : List Value) (ls : List (List UInt8)) : Prop := vs.length = ls.length ∧ ∀ (i : Nat) v l, vs[i]? = some v → ls[i]? = some l → Bl w B v l
theorem Vl.nil (w : World) (B : Nat) : Vl w B [] [] := ⟨rfl, fun i v l h => by simp at h⟩
theorem Vl.below {w w' : World} {B B' : Nat} {vs : List Value} {ls : List (List UInt8)} (h : Vl w B vs ls) (hb : Below B' w w') (hB : B ≤ B') : Vl w' B vs ls := ⟨h.1, fun i v l h1 h2 => (h.2 i v l h1 h2).below hb hB⟩
theorem Vl.more {w : World} {B B' : Nat} {vs : List Value} {ls : List (List UInt8)} (h : Vl w B vs ls) (hB : B ≤ B') : Vl w B' vs ls := ⟨h.1, fun i v l h1 h2 => (h.2 i v l h1 h2).more hB⟩
theorem Vl.snoc {w : World} {B : Nat} {vs : List Value} {ls : List (List UInt8)} {v : Value} {l : List UInt8} (h : Vl w B vs ls) (hv : Bl w B v l) : Vl w B (vs ++ [v]) (ls ++ [l]) := by
  refine ⟨by rw [List.length_append, List.length_append, h.1]; rfl, fun i v' l' h1 h2 => ?_⟩
  by_cases hi : i < vs.length
  · rw [List.getElem?_append_left hi] at h1
    rw [List.getElem?_append_left (by rw [← h.1]; exact hi)] at h2
    exact h.2 i v' l' h1 h2
  · have hi2 : i = vs.length := by
      have := (List.getElem?_eq_some_iff.1 h1).1
      rw [List.length_append] at this
      simp at this
      omega
    subst hi2
    rw [List.getElem?_append_right (Nat.le_refl _), Nat.sub_self] at h1
    rw [h.1, List.getElem?_append_right (Nat.le_refl _), Nat.sub_self] at h2
    simp at h1 h2
    subst h1 h2
    exact hv
/-- A list of lists of bytes at A, below block B. -/
def Ls (w : World) (B : Nat) (A : Option Addr) (ls : List (List UInt8)) : Prop := ∃ vs, Vs w B A vs ∧ Vl w B vs ls
theorem Ls.below {w w' : World} {B B' : Nat} {A : Option Addr} {ls : List (List UInt8)} (h : Ls w B A ls) (hb : Below B' w w') (hB : B ≤ B') : Ls w' B A ls := by
  obtain ⟨vs, h1, h2⟩ := h
  exact ⟨vs, h1.below hb hB, h2.below hb hB⟩
theorem Ls.more {w : World} {B B' : Nat} {A : Option Addr} {ls : List (List UInt8)} (h : Ls w B A ls) (hB : B ≤ B') : Ls w B' A ls := by
  obtain ⟨vs, h1, h2⟩ := h
  exact ⟨vs, h1.more hB, h2.more hB⟩
theorem lE : Elem Try.prog 32 22 (.slice none 0 0) 24 := Elem.mk' Try.underlying32 (by kernel_rfl) rfl
theorem Bl.one {w : World} {B : Nat} {v : Value} {l : List UInt8} (h : Bl w B v l) : v.oneCell' = true := by
  obtain ⟨A, n, c, rfl, _⟩ := h
  rfl

/-- What Valid answers. -/
def ValidA (l : List UInt8) (w : World) (x : Ending) (w' : World) : Prop :=
  ∃ A n c, x = .returned (.tuple #[.slice A n c, .int .i64 ((validL l).2 : Int)]) ∧ Hid ((validL l).1.length = n) ∧ n ≤ c ∧ c ≤ maxLen ∧ Ls w' w'.heap.size A (validL l).1 ∧ Below w.heap.size w w'

set_option maxRecDepth 100000 in
set_option maxHeartbeats 6400000 in
theorem rvalid_any (A : Option Addr) (m c : Nat) (l : List UInt8) (w : World) (hn : Hid (l.length = m)) (hmc : m ≤ c) (hcm : c ≤ maxLen) (hbs : Bs w w.heap.size A l) (hm : m ≤ 65536) :
    Calls Try.prog 15 #[.slice A m c] w (ValidA l w) := by
  have HLN := Lib.hid hn.out
  have HNX := Lib.hid (fun (V : World) (hV : Below w.heap.size w V) (p : Int) => rnext_any A m c l p w.heap.size V hn hmc hcm (hbs.below hV (Nat.le_refl _)) hV.size hm)
  clear hn hmc hcm hbs
  go_enter Try.func15, Try.ntmps15
  go_wp2_with fail
  go_loopw [4, 5, 6, 7, 8] (fun ov kv _ _ _ wr => ∃ (k : Nat) (vs : List Value) (pre : List (List UInt8)), kv = .int .i64 (k : Int) ∧ k ≤ m ∧ Hid (Own wr w.heap.size 22 ov vs ∧ Vl wr w.heap.size vs pre ∧ Below w.heap.size w wr ∧ pre.length ≤ k ∧ validL l = (pre ++ (validL (l.drop k)).1, k + (validL (l.drop k)).2))) (fun _ kv _ _ _ _ => m - (intOf kv).toNat)
  case atStart => exact ⟨0, [], [], rfl, Nat.zero_le _, Own.nil _ _ _, Vl.nil _ _, Below.refl _ _, Nat.le_refl _, by simp⟩
  case round =>
    obtain ⟨k, vs, pre, rfl, hkm, HR⟩ := hrel
    have HX := Lib.hid (HNX.out wr HR.out.2.2.1 (k : Int))
    have hle : k ≤ l.length := by rw [HLN.out]; exact hkm
    have hin := nextL_in hle
    by_cases he : (boxAt (l.drop k)).2.2 = 0
    · have hft := boxAt_fit he
      have hst := validL_step he
      rw [if_pos he] at hin
      obtain ⟨⟨bd, sz, er⟩, hbx⟩ : ∃ x, boxAt (l.drop k) = x := ⟨_, rfl⟩
      rw [hbx] at hin hft hst he
      simp only at hin hft hst he
      have hdl : (l.drop k).length = m - k := by rw [List.length_drop, HLN.out]
      rw [hdl] at hft
      have HN : Hid (validL l = ((pre ++ [bd]) ++ (validL (l.drop (k + sz))).1, (k + sz) + (validL (l.drop (k + sz))).2)) := by
        show _ = _
        rw [HR.out.2.2.2.2, hst, List.drop_drop]
        simp only [List.append_assoc, List.cons_append, List.nil_append, Nat.add_assoc]
      have hFT := Lib.hid hft
      unfold NextA at HX
      rw [hin] at HX
      clear hin hst he hbx hdl hle hft
      go_wp2_with fail
      refine HX.out.mono ?_
      rintro e w1 ⟨A1, n1, c1, rfl, hn1, h11, h12, hbs1, hb1⟩
      have HB1 : Hid (Below w.heap.size w w1) := HR.out.2.2.1.trans (hb1.mono HR.out.2.2.1.size)
      have hown := HR.out.1.below hb1 (Nat.le_refl _)
      have HV1 : Hid (Vl w1 w.heap.size (vs ++ [.slice A1 n1 c1]) (pre ++ [bd])) := (HR.out.2.1.below hb1 HR.out.2.2.1.size).snoc ⟨A1, n1, c1, rfl, hn1, h11, h12, hbs1⟩
      have hvl : vs.length ≤ 65536 := by rw [HR.out.2.1.1]; have := HR.out.2.2.2.1; omega
      have h63 : vs.length + 1 ≤ maxLen := by unfold maxLen; omega
      have hby : (vs.length + 1) * 24 ≤ 140737488355328 := by omega
      have hbz := HB1.out.size
      clear hn1 h11 h12 hbs1 hb1
      go_wp2_with (at_builtin; refine wp_app1 w1 rfl (.tmp 20) (.tmp 22) 32 rfl w.heap.size 22 lE u4 vs rfl hown (.slice A1 n1 c1) 22 1 rfl rfl h63 hby hbz ?_; intro v2 w2 ho2 hg2)
      have HR2 : Hid (Own w2 w.heap.size 22 v2 (vs ++ [.slice A1 n1 c1]) ∧ Vl w2 w.heap.size (vs ++ [.slice A1 n1 c1]) (pre ++ [bd]) ∧ Below w.heap.size w w2 ∧ (pre ++ [bd]).length ≤ k + sz ∧ validL l = ((pre ++ [bd]) ++ (validL (l.drop (k + sz))).1, (k + sz) + (validL (l.drop (k + sz))).2)) := by
        have hbb := below_app hown hg2 hbz
        refine ⟨ho2, HV1.out.below hbb (Nat.le_refl _), HB1.out.trans hbb, ?_, HN.out⟩
        have h1 := HR.out.2.2.2.1
        have h2 := hFT.out.1
        rw [List.length_append]
        simp
        omega
      have hks : k + sz ≤ m := by have := hFT.out.2.1; omega
      have hs7 : 7 ≤ sz := hFT.out.1
      clear ho2 hg2 hown
      try go_wp2_with fail
      go_roundw
      case rel => exact ⟨k + sz, vs ++ [.slice A1 n1 c1], pre ++ [bd], rfl, hks, HR2⟩
      case measure => simp [intOf]; omega
    · have hst := validL_stop he
      rw [if_neg he] at hin
      obtain ⟨er, hbx⟩ : ∃ x, (boxAt (l.drop k)).2.2 = x := ⟨_, rfl⟩
      rw [hbx] at hin he
      have g0 : (er != 0) = true := by simpa using he
      unfold NextA at HX
      rw [hin] at HX
      have HE : Hid (validL l = (pre, k)) := by show _ = _; rw [HR.out.2.2.2.2, hst]; simp
      clear hin hst he hbx hle
      go_wp2_with fail
      refine HX.out.mono ?_
      rintro e w1 ⟨A1, n1, c1, rfl, hn1, h11, h12, hbs1, hb1⟩
      have HF : Hid (∃ A n c, u4 = .slice A n c ∧ ValidA l w (.returned (.tuple #[.slice A n c, .int .i64 (k : Int)])) w1) := by
        have hown := HR.out.1.below hb1 (Nat.le_refl _)
        have hvl := (HR.out.2.1.below hb1 HR.out.2.2.1.size)
        have hb := HR.out.2.2.1.trans (hb1.mono HR.out.2.2.1.size)
        obtain ⟨A2, c2, e2, h1, h2, h3⟩ := hown.form
        refine ⟨A2, _, c2, e2, A2, vs.length, c2, by rw [HE.out], Lib.hid (by rw [HE.out]; exact hvl.1.symm), h1, h2, ?_, hb⟩
        rw [HE.out]
        exact ⟨vs, h3, hvl.more hb.size⟩
      clear hn1 h11 h12 hbs1 hb1
      obtain ⟨A2, n2, c2, rfl, hf⟩ := HF.out
      have HF2 := Lib.hid hf
      clear hf HF
      go_wp2_with fail
      go_ret2
      exact HF2.out

theorem take_succ_ls {a b : List (List UInt8)} {k : Nat} {x y : List UInt8} (h1 : a[k]? = some x) (h2 : b[k]? = some y) (h : a.take k = b.take k) (e : x = y) : a.take (k + 1) = b.take (k + 1) := by
  rw [List.take_add_one, List.take_add_one, h1, h2, h, e]
theorem ne_ls {a b : List (List UInt8)} {k : Nat} {x y : List UInt8} (h1 : a[k]? = some x) (h2 : b[k]? = some y) (e : x ≠ y) : decide (a = b) = false := by
  rw [decide_eq_false_iff_not]
  rintro rfl
  exact e (Option.some.inj (h1.symm.trans h2))
theorem Ls.at_ {w : World} {B : Nat} {A : Option Addr} {ls : List (List UInt8)} (h : Ls w B A ls) {k : Nat} (hk : k < ls.length) :
    ∃ b o, A = some ⟨b, o, none⟩ ∧ b < B ∧ ∃ A' n c l, w.cell? ⟨b, o + k, none⟩ = some (.slice A' n c) ∧ ls[k]? = some l ∧ Hid (l.length = n) ∧ n ≤ c ∧ c ≤ maxLen ∧ Bs w B A' l := by
  obtain ⟨vs, h1, h2, h3⟩ := h
  have hkv : k < vs.length := by rw [h2]; exact hk
  obtain ⟨b, o, rfl, hb, hc⟩ := h1.at_ (by omega)
  obtain ⟨A', n, c, e, g1, g2, g3, g4⟩ := h3 k _ _ (List.getElem?_eq_getElem hkv) (List.getElem?_eq_getElem hk)
  exact ⟨b, o, rfl, hb, A', n, c, ls[k], by rw [hc k hkv, e], List.getElem?_eq_getElem hk, g1, g2, g3, g4⟩

set_option maxRecDepth 100000 in
set_option maxHeartbeats 3200000 in
theorem rlists_any (A1 A2 : Option Addr) (n1 n2 c1 c2 : Nat) (l1 l2 : List (List UInt8)) (B : Nat) (w : World) (e1 : Hid (l1.length = n1)) (e2 : Hid (l2.length = n2)) (h1 : Ls w B A1 l1) (h2 : Ls w B A2 l2) (m1 : n1 ≤ 65536) (m2 : n2 ≤ 65536) :
    Calls Try.prog 16 #[.slice A1 n1 c1, .slice A2 n2 c2] w fun e w' => e = .returned (.bool (decide (l1 = l2))) ∧ ∃ n, w' = w.drewN n := by
  have E1 := Lib.hid e1.out
  have E2 := Lib.hid e2.out
  have H1 := Lib.hid h1
  have H2 := Lib.hid h2
  clear e1 e2 h1 h2
  by_cases hl : n1 = n2
  · subst hl
    go_enter Try.func16, Try.ntmps16
    go_wp2_with fail
    go_loopw [5] (fun i wr => ∃ k : Nat, k ≤ n1 ∧ i = .int .i64 (k : Int) ∧ Hid (l1.take k = l2.take k ∧ ∃ n, wr = w.drewN n)) (fun i _ => n1 - (intOf i).toNat)
    case atStart => exact ⟨0, Nat.zero_le _, rfl, by simp, 0, rfl⟩
    case round =>
      obtain ⟨k, hk, rfl, HI⟩ := hrel
      by_cases hlt : k < n1
      · have g1 : Ls wr B A1 l1 := by obtain ⟨n, e⟩ := HI.out.2; rw [e]; exact H1.out
        have g2 : Ls wr B A2 l2 := by obtain ⟨n, e⟩ := HI.out.2; rw [e]; exact H2.out
        obtain ⟨b1, o1, rfl, hb1, A3, n3, c3, x, cx, hx, hxl, hxc, hxm, hbx⟩ := g1.at_ (k := k) (by rw [E1.out]; exact hlt)
        obtain ⟨b2, o2, rfl, hb2, A4, n4, c4, y, cy, hy, hyl, hyc, hym, hby⟩ := g2.at_ (k := k) (by rw [E2.out]; exact hlt)
        obtain ⟨d, hd⟩ : ∃ d, decide (x = y) = d := ⟨_, rfl⟩
        have HSM : Hid (∀ n, Calls Try.prog 10 #[.slice A3 n3 c3, .slice A4 n4 c4] (wr.drewN n) fun e w'' => e = .returned (.bool d) ∧ ∃ m, w'' = wr.drewN m) := fun n => by
          have h := same_any A3 A4 n3 n4 c3 c4 x y B (wr.drewN n) hxl.out hyl.out (hbx.drewN n) (hby.drewN n) (by rw [hxl.out]; omega) (by rw [hyl.out]; omega)
          rw [hd] at h
          exact h.mono fun e w' ⟨q1, i, q2⟩ => ⟨q1, n + i, by rw [q2, World.drewN_drewN]⟩
        have HX := Lib.hid hx
        have HY := Lib.hid hy
        have HD := Lib.hid hd
        clear hd g1 g2 hxl hxc hxm hbx hyl hyc hym hby hx hy
        cases d with
        | true =>
          have hxy : x = y := of_decide_eq_true HD.out
          have HN : Hid (l1.take (k + 1) = l2.take (k + 1)) := take_succ_ls HX.out HY.out HI.out.1 hxy
          clear hxy
          go_wp2_with fail
          go_quiet ((go_at_call 10; with_reducible exact HSM.out _))
          go_wp2_with fail
          go_roundw
          case rel =>
            obtain ⟨n, e⟩ := HI.out.2
            exact ⟨k + 1, by omega, by go_num, HN.out, n + nq, by rw [e, World.drewN_drewN]⟩
          case measure => simp [intOf]; omega
        | false =>
          have HN : Hid (decide (l1 = l2) = false) := ne_ls HX.out HY.out (of_decide_eq_false HD.out)
          go_wp2_with fail
          go_quiet ((go_at_call 10; with_reducible exact HSM.out _))
          go_wp2_with fail
          go_ret
          obtain ⟨n, e⟩ := HI.out.2
          exact ⟨by rw [HN.out]; rfl, n + nq, by rw [e, World.drewN_drewN]⟩
      · have hkn : k = n1 := by omega
        have HN : Hid (decide (l1 = l2) = true) := by
          have h := HI.out.1
          rw [List.take_of_length_le (by rw [E1.out]; omega), List.take_of_length_le (by rw [E2.out]; omega)] at h
          exact decide_eq_true h
        clear hkn
        go_wp2_with fail
        go_ret
        obtain ⟨n, e⟩ := HI.out.2
        exact ⟨by rw [HN.out]; rfl, n, e⟩
  · have hb : ((n1 : Int) != (n2 : Int)) = true := by rw [bne_iff_ne]; omega
    have HN : Hid (decide (l1 = l2) = false) := by
      show _ = _
      rw [decide_eq_false_iff_not]
      rintro rfl
      exact hl (E1.out.symm.trans E2.out)
    go_enter Try.func16, Try.ntmps16
    go_wp2_with fail
    go_ret
    exact ⟨by rw [HN.out]; rfl, 0, rfl⟩
end Go.Proofs.Ytoielghmgjdknaa
