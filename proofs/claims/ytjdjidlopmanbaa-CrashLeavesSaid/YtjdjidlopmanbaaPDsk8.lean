/-
  A disk's Append.
-/
import Derived.Test.YtjdjidlopmanbaaPDsk5
import Derived.Test.YtjdjidlopmanbaaRef01
import Derived.Deep.RegionHeld3
namespace Go.Proofs.Ytjdjidlopmanbaa
open Go.RowKit
set_option linter.unusedVariables false

/-- Bytes stay where another block is written that holds none. -/
theorem Bs.off {w w' : World} {A : Option Addr} {l : List UInt8} {k : Nat} (h : Bs w w.heap.size A l) (hg : w.grownBy w' (some k)) (hk : ∀ i z, w.cell? ⟨k, i, none⟩ ≠ some (.int .u8 z)) : Bs w' w'.heap.size A l := by
  rcases h with h | ⟨b, o, e, hb, hc⟩
  · exact .inl h
  · refine .inr ⟨b, o, e, Nat.lt_of_lt_of_le hb hg.size, fun j hj => ?_⟩
    have hj' := hc j hj
    have hne : b ≠ k := by
      rintro rfl
      rw [List.getElem_map] at hj'
      exact hk _ _ hj'
    exact (World.cell?_of_block (hg.block b hb (by simpa using hne))).trans hj'
theorem PDsk.noByte {w : World} {O : Nat → Prop} {d : Nat} {st : DSt} {mb : Nat} {L : List Pil} (h : PDsk w O d st mb L) (i : Nat) (z : Int) : w.cell? ⟨d, i, none⟩ ≠ some (.int .u8 z) := by
  rw [h.blk.cell]
  intro e
  have := List.mem_of_getElem? e
  unfold pcells at this
  simp at this
theorem PMapIs.noByte {w : World} {mb : Nat} {L : List Pil} (h : PMapIs w mb L) (i : Nat) (z : Int) : w.cell? ⟨mb, i, none⟩ ≠ some (.int .u8 z) := by
  obtain ⟨es, clock, h1, _⟩ := h
  intro e
  simp [World.cell?, h1] at e
theorem drop_ins {nm : List UInt8} {g : PF} (hg : g.name = nm) : ∀ l : List PF, dropF nm (insF g l) = dropF nm l
  | [] => by unfold insF dropF; simp [hg]
  | h :: r => by
    unfold insF
    split
    · unfold dropF
      rw [List.filter_cons, if_neg (by simp [hg])]
    · have := drop_ins hg r
      unfold dropF at this ⊢
      rw [List.filter_cons, this, List.filter_cons]
theorem put_put {f g : PF} (h : g.name = f.name) (l : List PF) : putF f (putF g l) = putF f l := by
  unfold putF
  rw [drop_ins h, h]
  congr 1
  unfold dropF
  rw [List.filter_filter]
  simp
/-- Bytes have come to a file. -/
theorem PDsk.appended {w w5 : World} {O : Nat → Prop} {d : Nat} {st : DSt} {mb : Nat} {L : List Pil} (h : PDsk w O d st mb L) {x : Pil} (hx : x ∈ L) {A : Option Addr} {n c : Nat} {b : List UInt8}
    (hO : Own w5 0 5 (.slice A n c) ((x.f.data ++ b).map bv)) (hG : w.grownBy w5 (Value.slice x.f.A x.f.n x.f.c).ownBlock) (hv : (Value.slice A n c).ownBlock = (Value.slice x.f.A x.f.n x.f.c).ownBlock ∨ (Value.slice A n c).ownBlock = some w.heap.size) :
    ∃ O', IsP (w5.setCell ⟨x.p, 0, none⟩ (.slice A n c)) O' d { st with files := putF ⟨bl x.name, x.f.data ++ b, x.f.sure⟩ st.files } ∧ Eff O O' w (w5.setCell ⟨x.p, 0, none⟩ (.slice A n c)) := by
  have hfa := h.files x hx
  have hp := hfa.lt (.inl rfl)
  have hB5 : Bk w5 x.p 75 (fcells x.f) := (hG.block x.p hp (fun e => hfa.ne e.symm)).trans hfa.cell
  have hsz : w.heap.size ≤ (w5.setCell ⟨x.p, 0, none⟩ (.slice A n c)).heap.size := by simpa using hG.size
  have hne : (Value.slice A n c).ownBlock ≠ some x.p := fun e => by
    rcases hv with hv | hv
    · exact hfa.ne (hv ▸ e)
    · rw [e] at hv
      have := Option.some.inj hv
      omega
  have hb : ∀ k, k < w.heap.size → ¬ x.has k → (w5.setCell ⟨x.p, 0, none⟩ (.slice A n c)).heap[k]? = w.heap[k]? := fun k hk hq => by
    rw [heap_setCell_other _ ⟨x.p, 0, none⟩ k _ (fun e => hq (.inl e))]
    exact hG.block k hk (fun e => hq (.inr e.symm))
  have h1 := h.setOne (w' := w5.setCell ⟨x.p, 0, none⟩ (.slice A n c)) (x' := ⟨⟨x.f.name, A, n, c, x.f.data ++ b, x.f.sure⟩, x.p⟩) hx rfl rfl
    ⟨hB5.set_ 0 (.slice A n c), hO.same fun g hg => heap_setCell_other _ ⟨x.p, 0, none⟩ g _ (fun e => hne (by rw [hg, e])), hne⟩
    (fun k hq => by
      rcases hq with hq | hq
      · exact .inl (.inl hq)
      · rcases hv with hv | hv
        · exact .inl (.inr (hv ▸ hq))
        · have := Option.some.inj (hv.symm.trans hq)
          exact .inr (by omega)) hb hsz
    (by
      have hs := h.good.sure x.pf (by rw [← h.pf]; exact List.mem_map_of_mem hx)
      have hs2 : x.f.sure ≤ x.f.data.length := hs
      show x.f.sure ≤ (x.f.data ++ b).length
      rw [List.length_append]
      omega)
  refine ⟨_, ⟨mb, _, h1⟩, ?_⟩
  have hS := grown_set w5 x.p 0 (.slice A n c)
  exact ⟨hS.os.trans hG.os, hS.tape.trans hG.tape, hS.output.trans hG.output, hsz, fun k hk ho => hb k hk fun hq => ho (h.has x hx k hq).1, fun k hk => hk.elim .inl fun e => .inr e.1⟩

set_option maxRecDepth 100000 in
set_option maxHeartbeats 3200000 in
theorem pdskAppend_any {w : World} {O : Nat → Prop} {d : Nat} {st : DSt} {mb : Nat} {L : List Pil} (h : PDsk w O d st mb L) (s : ByteArray) (A : Option Addr) (n c : Nat) (b : List UInt8) (hs : s.size ≤ 65536) (hbn : b.length = n) (hnc : n ≤ c) (hcm : c ≤ maxLen) (hbs : Bs w w.heap.size A b) (hz : sizeF st.files + n ≤ 1099511627776) :
    Calls Try.prog 38 #[dptr d, .string s, .slice A n c] w (RetD IsP (.int .i64 (callS (appendS (bl s) b) st).2) (callS (appendS (bl s) b) st).1 d O w) := by
  have HB := Lib.hid (pdskBegin_any h)
  have HNB := Lib.hid h.noByte
  have HBS := Lib.hid hbs
  have HBN := Lib.hid hbn
  clear h hbs hbn
  cases hbg : (beginS st).2 with
  | false =>
    rw [hbg] at HB
    have HG := Lib.hid hbg
    clear hbg
    go_enter Try.func38, Try.ntmps38
    go_wp2_with fail
    refine HB.out.mono ?_
    rintro e w1 ⟨rfl, hI⟩
    have HI := Lib.hid hI
    clear hI
    go_wp2_with fail
    go_ret
    exact Began.off HG.out HI.out
  | true =>
    rw [hbg] at HB
    have HG := Lib.hid hbg
    have HZ : Hid (sizeF (beginS st).1.files + n ≤ 1099511627776) := by show _ ≤ _; rw [beginS_files hbg]; exact hz
    clear hbg hz
    go_enter Try.func38, Try.ntmps38
    go_wp2_with fail
    refine HB.out.mono ?_
    rintro e w1 ⟨rfl, O1, ⟨mb1, L1, h1⟩, he, hg1⟩
    have HE := Lib.hid he
    have HH := Lib.hid h1
    have HBS1 := Lib.hid (HBS.out.off (hg1 rfl) HNB.out)
    clear he h1 HB hg1 HBS HNB
    go_wp2_with fail
    refine (pdskFind_any HH.out s hs).mono ?_
    rintro e w2 ⟨rfl, hb2⟩
    have HB2 := Lib.hid hb2
    have h2 := HH.out.below hb2
    have HH2 := Lib.hid h2
    have k0 : ∀ V : World, Below w2.heap.size w2 V → V.cell? ⟨d, 0, none⟩ = some (.int .i64 (beginS st).1.cap) := fun V hV => (h2.below hV).blk.cellAt 0 (show 0 < 7 by decide)
    have HSZ := Lib.hid (fun (V : World) (hV : Below w2.heap.size w2 V) => pdskSize_any (h2.below hV) (by have := HZ.out; omega))
    have hcap := Go.bounds_i64 h2.cap
    have hcap0 := h2.cap0
    have hz := HZ.out
    obtain ⟨q, hq⟩ : ∃ q, (beginS st).1.cap - (sizeF (beginS st).1.files : Int) = q := ⟨_, rfl⟩
    have hwq : IntKind.i64.wrap ((beginS st).1.cap - (sizeF (beginS st).1.files : Int)) = q := by rw [IntKind.wrap_i64]; omega
    have HQ := Lib.hid hq
    clear hb2 h2 hcap hcap0 hq hz
    cases htl : targetL (bl s) with
    | false =>
      rw [findV_bad htl]
      have HT := Lib.hid htl
      clear htl k0 HSZ hwq
      go_wp2_with fail
      go_ret
      have e : appendS (bl s) b (beginS st).1 = ((beginS st).1, 7) := by unfold appendS; rw [if_pos HT.out]
      exact Done.ret HG.out HE.out (Done.same HH.out HB2.out (by rw [e])) (by rw [e])
    | true =>
      have HT := Lib.hid htl
      cases hf : findPil (bl s) L1 with
      | none =>
        rw [findV_none htl hf]
        have HF := Lib.hid hf
        have HFF : Hid (findF (bl s) (beginS st).1.files = none) := by show _ = _; rw [findPil_pfs HH.out.pf, hf]; rfl
        clear htl hf
        have c1 : w2.cell? ⟨d, 1, none⟩ = some (.map (some mb1)) := HH2.out.blk.cellAt 1 (show 1 < 7 by decide)
        have hlen := HH2.out.map_.len
        have hLF : (beginS st).1.files.length = L1.length := by rw [← HH.out.pf, List.length_map]
        by_cases hmax : L1.length = 1024
        · have g1 : ((L1.length : Int) == 1024) = true := by rw [beq_iff_eq]; omega
          have e : appendS (bl s) b (beginS st).1 = ((beginS st).1, 15) := by
            unfold appendS
            rw [if_neg (by rw [HT.out]; decide), if_pos ⟨by rw [HFF.out]; rfl, by omega⟩]
          have HEq := Lib.hid e
          clear e hmax hLF k0 HSZ hwq
          go_wp2_with fail
          go_ret
          exact Done.ret HG.out HE.out (Done.same HH.out HB2.out (by rw [HEq.out])) (by rw [HEq.out])
        · have g1 : ((L1.length : Int) == 1024) = false := by rw [beq_eq_false_iff_ne]; omega
          have hcnt := HH.out.count
          have hA0 : ¬ ((findF (bl s) (beginS st).1.files).isNone = true ∧ 1024 ≤ (beginS st).1.files.length) := by rintro ⟨_, h⟩; omega
          have HA0 := Lib.hid hA0
          have HCN : Hid (L1.length < 1024) := by show _ < _; omega
          clear hmax hLF hcnt hA0
          go_wp2_with fail
          by_cases hfull : q < (n : Int)
          · have g2 : decide (q < (n : Int)) = true := decide_eq_true hfull
            have e : appendS (bl s) b (beginS st).1 = ((beginS st).1, 10) := by
              unfold appendS
              rw [if_neg (by rw [HT.out]; decide), if_neg HA0.out, if_pos (by rw [HQ.out, HBN.out]; exact hfull)]
            have HEq := Lib.hid e
            clear e hfull
            go_region_held3 (fun V => Below w2.heap.size w2 V) (first | assumption | exact below_drewN (Below.refl _ _) 1 | exact Below.refl _ _) (first
              | (go_at_call 47; (with_reducible refine (HSZ.out _ ?_).mono ?_); exact below_drewN (Below.refl _ _) 1; rintro e w3 ⟨rfl, hb3⟩; have hb3 : Below w2.heap.size w2 w3 := (below_drewN (Below.refl _ _) 1).trans hb3))
            go_wp2_with fail
            go_ret
            exact Done.ret HG.out HE.out (Done.same HH.out (HB2.out.trans (hb3.mono HB2.out.size)) (by rw [HEq.out])) (by rw [HEq.out])
          · have g2 : decide (q < (n : Int)) = false := decide_eq_false hfull
            have hA1 : ¬ ((beginS st).1.cap - (sizeF (beginS st).1.files : Int) < (b.length : Int)) := by rw [HQ.out, HBN.out]; exact hfull
            have e : appendS (bl s) b (beginS st).1 = ({ (beginS st).1 with files := putF ⟨bl s, b, 0⟩ (beginS st).1.files }, 0) := by
              unfold appendS
              rw [if_neg (by rw [HT.out]; decide), if_neg HA0.out, if_neg hA1, HFF.out]
              rfl
            have HEq := Lib.hid e
            clear e hfull hA1
            go_region_held3 (fun V => Below w2.heap.size w2 V) (first | assumption | exact below_drewN (Below.refl _ _) 1 | exact Below.refl _ _) (first
              | (go_at_call 47; (with_reducible refine (HSZ.out _ ?_).mono ?_); exact below_drewN (Below.refl _ _) 1; rintro e w3 ⟨rfl, hb3⟩; have hb3 : Below w2.heap.size w2 w3 := (below_drewN (Below.refl _ _) 1).trans hb3))
            have hb13 := HB2.out.trans (hb3.mono HB2.out.size)
            have h3 := HH.out.below hb13
            have HB13 := Lib.hid hb13
            have HH3 := Lib.hid h3
            -- the new file
            obtain ⟨x0, hx0⟩ : ∃ x0 : Pil, x0 = ⟨⟨s, none, 0, 0, [], 0⟩, w3.heap.size⟩ := ⟨_, rfl⟩
            have HX0 := Lib.hid hx0
            have h4 := h3.below ((Below.refl w3.heap.size w3).alloc (Nat.le_refl _) (.cells #[.slice none 0 0, .int .i64 0] 75))
            obtain ⟨w4, hw4⟩ : ∃ w4, w3.alloc (.cells #[.slice none 0 0, .int .i64 0] 75) = w4 := ⟨_, rfl⟩
            have hB4 : Bk w4 w3.heap.size 75 [.slice none 0 0, .int .i64 0] := by rw [← hw4]; exact Bk.new w3 #[.slice none 0 0, .int .i64 0] _
            have hb4 : Below w3.heap.size w3 w4 := by rw [← hw4]; exact (Below.refl w3.heap.size w3).alloc (Nat.le_refl _) _
            have hs4 : w4.heap.size = w3.heap.size + 1 := by rw [← hw4]; simp
            rw [hw4] at h4
            obtain ⟨w5, hup, hm5, hg5⟩ := h4.map_.put x0 (by rw [hx0]; show s.size ≤ _; unfold maxLen; omega) (by have := HCN.out; unfold maxLen; omega)
            have hup' : (Instr.mapUpdate 59 (.map (some mb1)) (.string s) (.pointer (some ⟨w3.heap.size, 0, none⟩))).run Try.prog w4 = .ok () w5 := by rw [hx0] at hup; exact hup
            have c1' : w4.cell? ⟨d, 1, none⟩ = some (.map (some mb1)) := h4.blk.cellAt 1 (show 1 < 7 by decide)
            have hlt3 : ∀ k, O1 k → k < w3.heap.size := h3.lt
            have hmb3 : mb1 < w3.heap.size := h3.map_.lt
            have hB5 : Bk w5 w3.heap.size 75 [.slice none 0 0, .int .i64 0] := hB4.grown hg5 (by simp; omega)
            have hx0p : x0.p = w3.heap.size := by rw [hx0]
            have hfa0 : FileAt w5 x0 := by
              rw [hx0]
              exact ⟨hB5, Own.nil _ _ _, by show (none : Option Nat) ≠ _; simp⟩
            have hnone : ∀ y ∈ L1, bl y.name ≠ bl s := fun y hy e2 => by
              have := List.find?_eq_none.1 HF.out y hy
              simp [e2] at this
            have hpf0 : (putPil x0 L1).map Pil.pf = putF ⟨bl s, [], 0⟩ (beginS st).1.files := by
              rw [putPil_pf, HH.out.pf, hx0]
              rfl
            have hs5 := hg5.size
            have h5 := h4.add (w' := w5) (O' := fun k => O1 k ∨ k = w3.heap.size) x0 hfa0 (by rw [hx0]; exact hs) (Nat.le_trans (len_putPil _ _) (by have := HCN.out; omega)) hm5
              (fun k hk => by
                have hk2 : k = w3.heap.size := by
                  rcases hk with hk | hk
                  · rw [hk, hx0p]
                  · rw [hx0] at hk
                    cases hk
                have hd3 := hlt3 d h3.od
                refine ⟨.inr hk2, by omega, by omega, fun y hy _ hyk => ?_⟩
                have := (h3.files y hy).lt hyk
                omega)
              (fun k hk => .inl hk) (fun k hk => by
                rcases hk with hk | hk
                · have := hlt3 k hk
                  omega
                · omega)
              (fun k hk hne => hg5.block k (by have := hlt3 k hk; omega) (by simpa using hne)) (by rw [hpf0]; exact h4.good.put ⟨bl s, [], 0⟩ (Nat.le_refl _))
            rw [hpf0] at h5
            have hbs5 : Bs w5 w5.heap.size A b := ((HBS1.out.below hb13 (Nat.le_refl _)).more hb13.size |>.below hb4 (Nat.le_refl _) |>.more hb4.size).off hg5 h4.map_.noByte
            have d0 : w5.cell? ⟨w3.heap.size, 0, none⟩ = some (.slice none 0 0) := hB5.cellAt 0 (show 0 < 2 by decide)
            have hown : Own w5 0 5 (.slice none 0 0) [] := Own.nil _ _ _
            have hlb : (b.map bv).length = n := by rw [List.length_map]; exact HBN.out
            have hn1 : ([] : List Value).length + n ≤ maxLen := by have := HZ.out; unfold maxLen; simp; omega
            have hn2 : (([] : List Value).length + n) * 1 ≤ 140737488355328 := by have := HZ.out; simp; omega
            have HH5 := Lib.hid h5
            have HXM : Hid (x0 ∈ putPil x0 L1) := mem_putPil.2 (.inl rfl)
            have HE5 : Hid (Eff O1 (fun k => O1 k ∨ k = w3.heap.size) w3 w5) := by
              refine ⟨hg5.os.trans hb4.os, hg5.tape.trans hb4.tape, hg5.output.trans hb4.output, by omega, fun k hk ho => ?_, fun k hk => hk.elim .inl fun e => .inr (Nat.le_of_eq e.symm)⟩
              rw [hg5.block k (by omega) (by simp; rintro rfl; exact ho h3.om), hb4.block k hk]
            have HB5 := Lib.hid hB5
            have HPL : Hid (w3.heap.size < w5.heap.size) := by show _ < _; omega
            clear h3 h4 h5 hB4 hb4 hs4 hup hm5 hg5 hlt3 hmb3 hB5 hfa0 hnone hpf0 hs5 hx0 hb13 hx0p
            go_wp2_with (first | (refine wp_app _ rfl (.tmp 60) (.tmp 61) 41 rfl 0 5 u8E _ _ rfl hown w5.heap.size A n c (b.map bv) rfl hlb hbs5 (bv_one b) hn1 hn2 (Nat.zero_le _) ?_; intro v6 w6 hO6 hG6 hv6; obtain ⟨A6, n6, c6, rfl, -, -, -, -⟩ := Own.bform (l := b) hO6; have hk6 : Bk w6 w3.heap.size 75 [.slice none 0 0, .int .i64 0] := HB5.out.grown hG6 (fun e => by cases e); have d6 : w6.cell? ⟨w3.heap.size, 0, none⟩ = some (.slice none 0 0) := hk6.cellAt 0 (show 0 < 2 by decide); have f6 : w6.frozen? ⟨w3.heap.size, 0, none⟩ = false := hk6.frozen 0))
            go_ret
            have hx0 := HX0.out
            obtain ⟨O6, hI6, hE6⟩ := HH5.out.appended (x := x0) (w5 := w6) (A := A6) (n := n6) (c := c6) (b := b) HXM.out (by rw [hx0]; exact hO6) (by rw [hx0]; exact hG6) (by rw [hx0]; exact hv6)
            have hx0p : x0.p = w3.heap.size := by rw [hx0]
            rw [hx0p] at hI6 hE6
            have hpp : putF ⟨bl x0.name, x0.f.data ++ b, x0.f.sure⟩ (putF ⟨bl s, [], 0⟩ (beginS st).1.files) = putF ⟨bl s, b, 0⟩ (beginS st).1.files := by
              rw [hx0]
              exact put_put (f := ⟨bl s, b, 0⟩) (g := ⟨bl s, [], 0⟩) rfl _
            rw [hpp] at hI6
            exact Done.ret HG.out (HE.out.trans ((Eff.of_below HB13.out).trans HE5.out)) (by rw [HEq.out]; exact ⟨O6, hI6, hE6⟩) (by rw [HEq.out])
      | some x =>
        rw [findV_some htl hf]
        obtain ⟨hx, hxn⟩ := findPil_some hf
        have HX := Lib.hid hx
        have HXN := Lib.hid hxn
        have hff : findF (bl s) (beginS st).1.files = some x.pf := by rw [findPil_pfs HH.out.pf, hf]; rfl
        have HFF := Lib.hid hff
        have HA0 : Hid (¬ ((findF (bl s) (beginS st).1.files).isNone = true ∧ 1024 ≤ (beginS st).1.files.length)) := by show ¬ _; rw [hff]; simp
        clear htl hf hx hxn hff
        go_wp2_with fail
        by_cases hfull : q < (n : Int)
        · have g2 : decide (q < (n : Int)) = true := decide_eq_true hfull
          have e : appendS (bl s) b (beginS st).1 = ((beginS st).1, 10) := by
            unfold appendS
            rw [if_neg (by rw [HT.out]; decide), if_neg HA0.out, if_pos (by rw [HQ.out, HBN.out]; exact hfull)]
          have HEq := Lib.hid e
          clear e hfull
          go_region_held3 (fun V => Below w2.heap.size w2 V) (first | assumption | exact below_drewN (Below.refl _ _) 1 | exact Below.refl _ _) (first
            | (go_at_call 47; (with_reducible refine (HSZ.out _ ?_).mono ?_); exact below_drewN (Below.refl _ _) 1; rintro e w3 ⟨rfl, hb3⟩; have hb3 : Below w2.heap.size w2 w3 := (below_drewN (Below.refl _ _) 1).trans hb3))
          go_wp2_with fail
          go_ret
          exact Done.ret HG.out HE.out (Done.same HH.out (HB2.out.trans (hb3.mono HB2.out.size)) (by rw [HEq.out])) (by rw [HEq.out])
        · have g2 : decide (q < (n : Int)) = false := decide_eq_false hfull
          have hA1 : ¬ ((beginS st).1.cap - (sizeF (beginS st).1.files : Int) < (b.length : Int)) := by rw [HQ.out, HBN.out]; exact hfull
          have e : appendS (bl s) b (beginS st).1 = ({ (beginS st).1 with files := putF ⟨bl s, x.f.data ++ b, x.f.sure⟩ (beginS st).1.files }, 0) := by
            unfold appendS
            rw [if_neg (by rw [HT.out]; decide), if_neg HA0.out, if_neg hA1, HFF.out]
            rfl
          have HEq := Lib.hid e
          clear e hfull hA1
          go_region_held3 (fun V => Below w2.heap.size w2 V) (first | assumption | exact below_drewN (Below.refl _ _) 1 | exact Below.refl _ _) (first
            | (go_at_call 47; (with_reducible refine (HSZ.out _ ?_).mono ?_); exact below_drewN (Below.refl _ _) 1; rintro e w3 ⟨rfl, hb3⟩; have hb3 : Below w2.heap.size w2 w3 := (below_drewN (Below.refl _ _) 1).trans hb3))
          have hb13 := HB2.out.trans (hb3.mono HB2.out.size)
          have h3 := HH.out.below hb13
          have HB13 := Lib.hid hb13
          have HH3 := Lib.hid h3
          have hfa := h3.files x HX.out
          have hbs3 : Bs w3 w3.heap.size A b := (HBS1.out.below hb13 (Nat.le_refl _)).more hb13.size
          have d0 : w3.cell? ⟨x.p, 0, none⟩ = some (.slice x.f.A x.f.n x.f.c) := hfa.cell.cellAt 0 (show 0 < 2 by decide)
          have hown : Own w3 0 5 (.slice x.f.A x.f.n x.f.c) (x.f.data.map bv) := hfa.own
          have hlb : (b.map bv).length = n := by rw [List.length_map]; exact HBN.out
          have hsz : x.f.data.length ≤ sizeF (beginS st).1.files := by
            have := sizeF_drop_mem (nm := bl x.name) (f := x.pf) rfl (l := (beginS st).1.files) (by rw [← HH.out.pf]; exact List.mem_map_of_mem HX.out)
            have h9 : x.pf.data.length = x.f.data.length := rfl
            omega
          have hn1 : (x.f.data.map bv).length + n ≤ maxLen := by have := HZ.out; rw [List.length_map]; unfold maxLen; omega
          have hn2 : ((x.f.data.map bv).length + n) * 1 ≤ 140737488355328 := by have := HZ.out; rw [List.length_map]; omega
          have HFA := Lib.hid hfa
          clear h3 hfa hsz hb13
          go_wp2_with (first | (refine wp_app _ rfl (.tmp 60) (.tmp 61) 41 rfl 0 5 u8E _ _ rfl hown w3.heap.size A n c (b.map bv) rfl hlb hbs3 (bv_one b) hn1 hn2 (Nat.zero_le _) ?_; intro v6 w6 hO6 hG6 hv6; rw [← List.map_append] at hO6; obtain ⟨A6, n6, c6, rfl, -, -, -, -⟩ := hO6.bform; have hk6 : Bk w6 x.p 75 (fcells x.f) := HFA.out.cell.grown hG6 (fun e => HFA.out.ne e.symm); have d6 : w6.cell? ⟨x.p, 0, none⟩ = some (.slice x.f.A x.f.n x.f.c) := hk6.cellAt 0 (show 0 < 2 by decide); have f6 : w6.frozen? ⟨x.p, 0, none⟩ = false := hk6.frozen 0))
          go_ret
          obtain ⟨O6, hI6, hE6⟩ := HH3.out.appended (x := x) (w5 := w6) (A := A6) (n := n6) (c := c6) (b := b) HX.out hO6 hG6 hv6
          rw [HXN.out] at hI6
          exact Done.ret HG.out (HE.out.trans (Eff.of_below HB13.out)) (by rw [HEq.out]; exact ⟨O6, hI6, hE6⟩) (by rw [HEq.out])
end Go.Proofs.Ytjdjidlopmanbaa
