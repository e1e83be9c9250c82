/-
  The reference's bits and product.
-/
import Derived.Test.YtgefjlamlgmijaaDoorPrice2
import Derived.Test.YtgefjlamlgmijaaDoorPriceB
import Derived.Test.YtgefjlamlgmijaaDoorBlk
import Derived.StillTailTactics
namespace Go.Proofs.YtgefjlamlgmijaaDoor
open Go.RowKit
set_option linter.unusedVariables false

theorem i64E : Elem Tryd.prog 38 3 (.int .i64 0) 8 := Elem.mk' Tryd.underlying38 (by kernel_rfl) rfl
/-- A digit's value. -/
def nv (x : Nat) : Value := .int .i64 (x : Int)
/-- A call's answer: digits in memory of its own. -/
def RetD (good : List Nat → Prop) (w : World) (x : Ending) (w' : World) : Prop :=
  ∃ l A n c, x = .returned (.slice A n c) ∧ good l ∧ Hid (l.length = n) ∧ n ≤ c ∧ c ≤ maxLen ∧ Vs w' w'.heap.size A (l.map nv) ∧ Below w.heap.size w w'
def IsBits (n : Nat) (l : List Nat) : Prop := wt l = n ∧ (∀ x ∈ l, x ≤ 1) ∧ l.length ≤ 64

set_option maxHeartbeats 400000 in
theorem rbits_any (n : Nat) (w : World) (hn : n < 18446744073709551616) : Calls Tryd.prog 20 #[.int .u64 (n : Int)] w (RetD (IsBits n) w) := by
  go_enter Tryd.func20, Tryd.ntmps20
  go_wp2
  go_loopw [0, 3] (fun x v wr => ∃ (q : Nat) (l : List Nat), x = .int .u64 q ∧ Hid (wt l + 2 ^ l.length * q = n) ∧ (∀ x ∈ l, x ≤ 1) ∧ l.length ≤ 64 ∧ Own wr w.heap.size 3 v (l.map nv) ∧ Below w.heap.size w wr) (fun x _ _ => (intOf x).toNat)
  case atStart => exact ⟨n, [], rfl, Lib.hid (by simp [wt]), by simp, by simp, Own.nil _ _ _, Below.refl _ _⟩
  case round =>
    obtain ⟨q, l, rfl, HE, h1, hl, hown, hb⟩ := hrel
    have hE := HE.out
    have hqn : q ≤ n := by
      have : 1 * q ≤ 2 ^ l.length * q := Nat.mul_le_mul_right q (Nat.two_pow_pos l.length)
      omega
    have hlt64 : 0 < q → l.length < 64 := fun hq => by
      rcases Nat.lt_or_ge l.length 64 with h | h
      · exact h
      · have h2 : 2 ^ 64 ≤ 2 ^ l.length := Nat.pow_le_pow_right (by omega) h
        have h3 : 2 ^ l.length * 1 ≤ 2 ^ l.length * q := Nat.mul_le_mul_left _ hq
        omega
    have hnext : wt (l ++ [q % 2]) + 2 ^ (l ++ [q % 2]).length * (q / 2) = n := by
      rw [wt_snoc, List.length_append, List.length_singleton, Nat.pow_succ, Nat.add_assoc, Nat.mul_assoc, ← Nat.mul_add, Nat.mod_add_div]
      exact hE
    have HN := Lib.hid hnext
    have HEND : Hid (q = 0 → wt l = n) := Lib.hid fun h0 => by rw [h0, Nat.mul_zero] at hE; exact hE
    clear hE hnext
    by_cases hq : 0 < q
    · have hlt := hlt64 hq
      clear hlt64
      have hbs := hb.size
      have HLL : Hid ((l.map nv).length = l.length) := by show _ = _; rw [List.length_map]
      obtain ⟨m, hm⟩ : ∃ m, l.length = m := ⟨_, rfl⟩
      rw [hm] at hlt HLL
      clear hl
      have HM := Lib.hid hm
      clear hm
      go_wp2_with (at_builtin; refine wp_app1 wr rfl (.tmp 6) (.tmp 10) _ rfl w.heap.size 3 i64E u3 _ rfl hown _ _ _ rfl rfl ?c1 ?c2 ?c3 ?_)
      case c1 => rw [HLL.out]; simp [maxLen]; omega
      case c2 => rw [HLL.out]; omega
      case c3 => exact hbs
      intro v' w1 hown' hg
      have hown2 : Own w1 w.heap.size 3 v' ((l ++ [q % 2]).map nv) := by
        rw [List.map_append]
        have e : [q % 2].map nv = [Value.int .i64 ((q : Int) % 2)] := by simp [nv]
        rw [e]
        exact hown'
      have hb2 := hb.trans (below_app hown hg hbs)
      have hone : ∀ x ∈ l ++ [q % 2], x ≤ 1 := by
        intro x hx
        rcases List.mem_append.1 hx with h | h
        · exact h1 x h
        · have := List.mem_singleton.1 h
          omega
      have hln : (l ++ [q % 2]).length ≤ 64 := by rw [List.length_append, HM.out, List.length_singleton]; omega
      obtain ⟨l2, hl2⟩ : ∃ l2, l ++ [q % 2] = l2 := ⟨_, rfl⟩
      rw [hl2] at hown2 hone hln HN
      clear hown hown' hg hb hl2 h1
      go_wp2
      go_roundw
      case rel => exact ⟨q / 2, l2, by go_num, HN, hone, hln, hown2, hb2⟩
      case measure => simp [intOf]; omega
    · obtain rfl : q = 0 := by omega
      have HE2 := Lib.hid (HEND.out rfl)
      clear HEND
      go_wp2
      go_ret
      obtain ⟨A, c, rfl, h2, h3, h4⟩ := hown.form
      refine ⟨l, A, _, c, rfl, ⟨HE2.out, h1, hl⟩, Lib.hid (by rw [List.length_map]), h2, h3, h4, hb⟩
theorem vs_at {w : World} {B b o : Nat} {l : List Nat} (h : Vs w B (some ⟨b, o, none⟩) (l.map nv)) (i : Nat) (hi : i < l.length) : w.cell? ⟨b, o + i, none⟩ = some (.int .i64 (l[i] : Int)) := by
  obtain ⟨b', o', e, hb, hc⟩ := h.at_ (by rw [List.length_map]; omega)
  simp at e
  obtain ⟨rfl, rfl⟩ := e
  rw [hc i (by rw [List.length_map]; exact hi), List.getElem_map]
  rfl
theorem nv_set {w : World} {g : Nat} {t : TypeId} {os : List Nat} (h : Bk w g t (os.map nv)) (i v : Nat) : Bk (w.setCell ⟨g, i, none⟩ (.int .i64 (v : Int))) g t ((os.set i v).map nv) := by
  rw [List.map_set]
  exact h.set_ i (nv v)
theorem nv_cell {w : World} {g : Nat} {t : TypeId} {os : List Nat} (h : Bk w g t (os.map nv)) (i : Nat) (hi : i < os.length) : w.cell? ⟨g, i, none⟩ = some (.int .i64 (os[i] : Int)) := by
  rw [h.cellAt i (by rw [List.length_map]; exact hi), List.getElem_map]
  rfl

def IsProd (P n : Nat) (l : List Nat) : Prop := wt l = P ∧ (∀ x ∈ l, x ≤ 1) ∧ l.length = n ∧ n ≤ 129

set_option maxHeartbeats 1600000 in
theorem product_any (A B : Option Addr) (la ca lb cb : Nat) (a b : List Nat) (w : World) (ha : Vs w w.heap.size A (a.map nv)) (hb : Vs w w.heap.size B (b.map nv)) (HA : Hid (a.length = la)) (HB : Hid (b.length = lb))
    (hla : la ≤ 64) (hlb : lb ≤ 64) (ha1 : ∀ x ∈ a, x ≤ 1) (hb1 : ∀ x ∈ b, x ≤ 1) (hca : la ≤ ca) (hcb : lb ≤ cb) : Calls Tryd.prog 19 #[.slice A la ca, .slice B lb cb] w (RetD (IsProd (wt a * wt b) (la + lb + 1)) w) := by
  have hmk := make_row i64E rfl w (la + lb + 1) ((la : Int) + (lb : Int) + 1) (by omega) (by omega) (by omega)
  obtain ⟨n, hn⟩ : ∃ n, la + lb + 1 = n := ⟨_, rfl⟩
  have HN := Lib.hid hn
  have HNI : Hid ((n : Int) = (la : Int) + (lb : Int) + 1) := by show _ = _; omega
  have hw0 : wt (List.replicate n 0) = wt (a.take 0) * wt b := by rw [wt_zero, List.take_zero, show wt [] = 0 from rfl, Nat.zero_mul]
  rw [hn] at hmk
  obtain ⟨W, hW⟩ : ∃ W, w.alloc (.cells (List.replicate n (Value.int .i64 0)).toArray 3) = W := ⟨_, rfl⟩
  have hO : Bk W w.heap.size 3 ((List.replicate n 0).map nv) := by rw [← hW]; exact Bk.newL _ _ _ _ (by simp [nv])
  have hBW : Below w.heap.size w W := by rw [← hW]; exact (Below.refl _ _).alloc (Nat.le_refl _) _
  rw [hW] at hmk
  have hn129 : n ≤ 129 := by omega
  clear hW hn
  go_enter Tryd.func19, Tryd.ntmps19
  go_wp2_with fail
  go_loopw [6, 7] (fun i _ wr => ∃ (j : Nat) (os : List Nat), j ≤ la ∧ i = .int .i64 j ∧ os.length = n ∧ wt os = wt (a.take j) * wt b ∧ (∀ x ∈ os, x ≤ j * lb) ∧ Bk wr w.heap.size 3 (os.map nv) ∧ Below w.heap.size w wr) (fun i _ _ => la - (intOf i).toNat)
  case atStart => exact ⟨0, _, by omega, rfl, by simp, hw0, by simp, hO, hBW⟩
  case round =>
    clear hO hBW hmk hw0
    obtain ⟨j, os, hj, rfl, hol, hw, hos, hO, hBW⟩ := hrel
    by_cases hlt : j < la
    · have hw2 := conv_zero a b os j (by rw [HA.out]; exact hlt) hw
      clear hw
      go_wp2_with fail
      go_loopw [7] (fun i wr => ∃ (k : Nat) (os : List Nat), k ≤ lb ∧ i = .int .i64 k ∧ os.length = n ∧ Hid (wt os = wt (a.take j) * wt b + 2 ^ j * a[j]'(by rw [HA.out]; exact hlt) * wt (b.take k)) ∧ (∀ x ∈ os, x ≤ j * lb + k) ∧ Bk wr w.heap.size 3 (os.map nv) ∧ Below w.heap.size w wr) (fun i _ => lb - (intOf i).toNat)
      case atStart => exact ⟨0, os, by omega, rfl, hol, Lib.hid hw2, by simpa using hos, hO, hBW⟩
      case round =>
        clear hO hBW hw2 hol hos
        obtain ⟨k, os, hk, rfl, hol, HW, hos, hO, hBW⟩ := hrel
        by_cases hlt2 : k < lb
        · obtain ⟨ba, oa, rfl, hba, -⟩ := ha.at_ (by rw [List.length_map, HA.out]; omega)
          obtain ⟨bb, ob, rfl, hbb, -⟩ := hb.at_ (by rw [List.length_map, HB.out]; omega)
          have c1 := vs_at (ha.below hBW (Nat.le_refl _)) j (by rw [HA.out]; exact hlt)
          have c2 := vs_at (hb.below hBW (Nat.le_refl _)) k (by rw [HB.out]; exact hlt2)
          have hjk : j + k < os.length := by have := HN.out; omega
          have c3 := nv_cell hO (j + k) hjk
          have hx := ha1 _ (List.getElem_mem (show j < a.length by rw [HA.out]; exact hlt))
          have hy := hb1 _ (List.getElem_mem (show k < b.length by rw [HB.out]; exact hlt2))
          have hz := hos _ (List.getElem_mem hjk)
          have hjl : j * lb ≤ 64 * 64 := Nat.mul_le_mul (by omega) hlb
          have hconv := conv_step a b os j k (by rw [HA.out]; exact hlt) (by rw [HB.out]; exact hlt2) hjk HW.out
          have hfr := hO.frozen (j + k)
          obtain ⟨x, hxe⟩ : ∃ x, a[j]'(by rw [HA.out]; exact hlt) = x := ⟨_, rfl⟩
          obtain ⟨y, hye⟩ : ∃ y, b[k]'(by rw [HB.out]; exact hlt2) = y := ⟨_, rfl⟩
          obtain ⟨z, hze⟩ : ∃ z, os[j + k] = z := ⟨_, rfl⟩
          rw [hxe] at c1 hx
          rw [hye] at c2 hy hconv
          rw [hze] at c3 hz hconv
          have hv1 : a[j]'(by rw [HA.out]; exact hlt) * y ≤ 1 * 1 := Nat.mul_le_mul (by rw [hxe]; exact hx) hy
          have hv2 : (x : Int) * (y : Int) = ((a[j]'(by rw [HA.out]; exact hlt) * y : Nat) : Int) := by rw [hxe]; norm_cast
          obtain ⟨v, hve⟩ : ∃ v, a[j]'(by rw [HA.out]; exact hlt) * y = v := ⟨_, rfl⟩
          rw [hve] at hv1 hv2 hconv
          have HC := Lib.hid hconv
          have hO2 := nv_set hO (j + k) (z + v)
          rw [Int.natCast_add] at hO2
          have hb2 := hBW.setCell (p := ⟨w.heap.size, j + k, none⟩) (by simp) (.int .i64 ((z : Int) + (v : Int)))
          have hl2 : (os.set (j + k) (z + v)).length = n := by rw [List.length_set]; exact hol
          have hos2 : ∀ x ∈ os.set (j + k) (z + v), x ≤ j * lb + (k + 1) := by
            intro u hu
            rcases List.mem_or_eq_of_mem_set hu with h | h
            · have := hos u h; omega
            · omega
          obtain ⟨os2, ho2⟩ : ∃ os2, os.set (j + k) (z + v) = os2 := ⟨_, rfl⟩
          rw [ho2] at hO2 hl2 hos2 HC
          have h1 : IntKind.i64.wrap ((j : Int) + (k : Int)) = (j : Int) + (k : Int) := IntWalk.i64_in _ (by omega)
          have h2 : (0 : Int) ≤ (j : Int) + (k : Int) := by omega
          have h3 : ((j : Int) + (k : Int)).toNat = j + k := by omega
          have h4 : (j : Int) + (k : Int) < (n : Int) := by omega
          have h5 : IntKind.i64.wrap ((z : Int) + (v : Int)) = (z : Int) + (v : Int) := IntWalk.i64_in _ (by omega)
          clear hxe hye hze hve hconv ho2 HW hos hO hBW hjk hol
          go_wp2_with fail
          go_still_tail 21, (by kernel_rfl)
          go_wp2_with fail
          go_roundw
          case rel => exact ⟨k + 1, os2, by omega, by go_num, hl2, HC, hos2, hO2, below_drewN hb2 1⟩
          case measure => simp [intOf]; omega
        · obtain rfl : k = lb := by omega
          have hw3 := conv_row a b os j (by rw [HA.out]; exact hlt) (by rw [HB.out]; exact HW.out)
          have HW3 := Lib.hid hw3
          clear hw3 HW
          have hos2 : ∀ x ∈ os, x ≤ (j + 1) * k := by intro x hx; have := hos x hx; rw [Nat.succ_mul]; exact this
          clear hos
          go_wp2_with fail
          go_roundw
          case rel => exact ⟨j + 1, os, by omega, by go_num, hol, HW3.out, hos2, hO, hBW⟩
          case measure => simp [intOf]; omega
    · obtain rfl : j = la := by omega
      have hwt : wt os = wt a * wt b := by rw [hw, ← HA.out, List.take_length]
      have HWT := Lib.hid hwt
      have hP : wt a * wt b < 2 ^ (n - 1) := by
        have h1 := wt_lt a ha1
        have h2 := wt_lt b hb1
        rw [HA.out] at h1
        rw [HB.out] at h2
        rw [← HN.out, Nat.add_sub_cancel, Nat.pow_add]
        exact Nat.mul_lt_mul'' h1 h2
      have hjl : j * lb ≤ 64 * 64 := Nat.mul_le_mul hla hlb
      have hn2 : 1 ≤ n := by rw [← HN.out]; omega
      have hB1 : ∀ (t : Nat) (ht : t < os.length), os[t] ≤ 4096 := fun t ht => Nat.le_trans (hos _ (List.getElem_mem ht)) hjl
      clear hw hwt hos
      go_wp2_with fail
      go_loopw [8] (fun i wr => ∃ (t : Nat) (os : List Nat), i = .int .i64 t ∧ t + 1 ≤ n ∧ os.length = n ∧ Hid (wt os = wt a * wt b) ∧ (∀ (s : Nat) (hs : s < os.length), s < t → os[s] ≤ 1) ∧ (∀ (s : Nat) (hs : s < os.length), s ≠ t → os[s] ≤ 4096) ∧ (∀ (s : Nat) (hs : s < os.length), os[s] ≤ 8192) ∧ Bk wr w.heap.size 3 (os.map nv) ∧ Below w.heap.size w wr) (fun i _ => n - (intOf i).toNat)
      case atStart => exact ⟨0, os, rfl, hn2, hol, HWT, fun s _ h => absurd h (Nat.not_lt_zero s), fun s hs _ => hB1 s hs, fun s hs => Nat.le_trans (hB1 s hs) (by omega), hO, hBW⟩
      case round =>
        clear hO hBW HWT hB1 hol hj hlt hn2
        obtain ⟨t, os, rfl, ht, hol, HWT, hb1', hb2', hb3', hO, hBW⟩ := hrel
        by_cases hlt : t + 1 < n
        · have ht1 : t + 1 < os.length := by omega
          have ht0 : t < os.length := by omega
          have c0 := nv_cell hO t ht0
          have c1 := nv_cell hO (t + 1) ht1
          have hz0 := hb3' t ht0
          have hz1 := hb2' (t + 1) ht1 (by omega)
          have hcarry := carry_step os t ht1
          obtain ⟨z0, e0⟩ : ∃ z, os[t] = z := ⟨_, rfl⟩
          obtain ⟨z1, e1⟩ : ∃ z, os[t + 1] = z := ⟨_, rfl⟩
          rw [e0] at c0 hz0 hcarry
          rw [e1] at c1 hz1 hcarry
          rw [HWT.out] at hcarry
          have HC := Lib.hid hcarry
          have hfr1 := hO.frozen (t + 1)
          have hO1 := nv_set hO (t + 1) (z1 + z0 / 2)
          have hfr0 := hO1.frozen t
          have c2 := nv_cell hO1 t (by rw [List.length_set]; exact ht0)
          rw [List.getElem_set_ne (by omega), e0] at c2
          have hO2 := nv_set hO1 t (z0 % 2)
          have hb2 := (hBW.setCell (p := ⟨w.heap.size, t + 1, none⟩) (by simp) (.int .i64 ((z1 + z0 / 2 : Nat) : Int))).setCell (p := ⟨w.heap.size, t, none⟩) (by simp) (.int .i64 ((z0 % 2 : Nat) : Int))
          obtain ⟨d, hd⟩ : ∃ d, z0 / 2 = d := ⟨_, rfl⟩
          obtain ⟨m, hm⟩ : ∃ m, z0 % 2 = m := ⟨_, rfl⟩
          have hd1 : (z0 : Int) / 2 = (d : Int) := by omega
          have hd2 : (z0 : Int).tdiv 2 = (d : Int) := by rw [Int.tdiv_eq_ediv_of_nonneg (by omega)]; exact hd1
          have hm1 : (z0 : Int) % 2 = (m : Int) := by omega
          have hm2 : (z0 : Int).tmod 2 = (m : Int) := by rw [Int.tmod_eq_emod_of_nonneg (by omega)]; exact hm1
          rw [hd, Int.natCast_add] at hO1 hfr0 c2 hO2 hb2
          rw [hm] at hO2 hb2
          rw [hd, hm] at HC
          have hdl : d ≤ 4096 := by omega
          have hml : m ≤ 1 := by omega
          have hl2 : ((os.set (t + 1) (z1 + d)).set t m).length = n := by rw [List.length_set, List.length_set]; exact hol
          have q1 : ∀ (s : Nat) (hs : s < ((os.set (t + 1) (z1 + d)).set t m).length), s < t + 1 → ((os.set (t + 1) (z1 + d)).set t m)[s] ≤ 1 := by
            intro s hs hst
            rw [List.getElem_set]
            split
            · exact hml
            · rw [List.getElem_set_ne (by omega)]
              exact hb1' s _ (by omega)
          have q2 : ∀ (s : Nat) (hs : s < ((os.set (t + 1) (z1 + d)).set t m).length), s ≠ t + 1 → ((os.set (t + 1) (z1 + d)).set t m)[s] ≤ 4096 := by
            intro s hs hst
            rw [List.getElem_set]
            split
            · omega
            · rw [List.getElem_set_ne (by omega)]
              exact hb2' s _ (by omega)
          have q3 : ∀ (s : Nat) (hs : s < ((os.set (t + 1) (z1 + d)).set t m).length), ((os.set (t + 1) (z1 + d)).set t m)[s] ≤ 8192 := by
            intro s hs
            rw [List.getElem_set]
            split
            · omega
            · rw [List.getElem_set]
              split
              · omega
              · exact hb3' s _
          generalize (os.set (t + 1) (z1 + d)).set t m = os2 at HC hO2 hl2 q1 q2 q3
          have h1 : IntKind.i64.wrap ((t : Int) + 1) = (t : Int) + 1 := IntWalk.i64_in _ (by omega)
          have h2 : (0 : Int) ≤ (t : Int) + 1 := by omega
          have h3 : ((t : Int) + 1).toNat = t + 1 := by omega
          have h4 : (t : Int) + 1 < (n : Int) := by omega
          have h5 : (t : Int) < (n : Int) := by omega
          have h6 : IntKind.i64.wrap ((z1 : Int) + (d : Int)) = (z1 : Int) + (d : Int) := IntWalk.i64_in _ (by omega)
          clear e0 e1 hd hm hcarry hO hO1 HWT hb1' hb2' hb3' hol ht1 ht0 hBW
          go_wp2_with fail
          go_still_tail 15, (by kernel_rfl)
          go_wp2_with fail
          go_roundw
          case rel => exact ⟨t + 1, os2, by go_num, by omega, hl2, HC, q1, q2, q3, hO2, below_drewN hb2 1⟩
          case measure => simp [intOf]; omega
        · obtain rfl : n = t + 1 := by omega
          have hone := carry_end os t (wt a * wt b) hol.symm HWT.out hP hb1'
          have hv := hO.part 0 (os.map nv).length
          rw [List.drop_zero, List.take_length] at hv
          go_wp2_with fail
          go_ret
          exact ⟨os, _, _, _, rfl, ⟨HWT.out, hone, hol.trans HN.out.symm, by rw [HN.out]; exact hn129⟩, Lib.hid hol, Nat.le_refl _, by unfold maxLen; omega, hv, hBW⟩
end Go.Proofs.YtgefjlamlgmijaaDoor
