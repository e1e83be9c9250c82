/-
  box.Valid: a range over box.boxes, over box.Next.
-/
import Derived.Test.YtoielghmgjdknaaBoxIt
import Derived.Test.YtoielghmgjdknaaBxC
import Derived.Maps.AppendAt
import Derived.Shelf.RegionOpen
import Derived.RangeFuncBox
import Derived.RegionIn
namespace Go.Proofs.Ytoielghmgjdknaa
open Go.RowKit Go.Shelf
set_option linter.unusedVariables false

attribute [local go_sem] Oper.semAt_some

theorem boxes_any (A : Option Addr) (m c : Nat) (w : World) : Calls Try.prog 25 #[.slice A m c] w fun e w' => e = .returned (.func (.func 34) #[] #[.pointer (some ⟨w.heap.size, 0, none⟩)]) ∧ w' = w.alloc (.cells #[.slice A m c] 22) := by
  have hmf : ∀ (fn : Fn) (first cap : Array Value) (w : World), (Instr.makeFunc fn first cap).run Try.prog w = .ok (.func fn first cap) w := fun _ _ _ _ => rfl
  go_enter Try.func25, Try.ntmps25
  go_wp2_with fail
  go_ret
  exact ⟨rfl, rfl⟩
def BoxX.v (x : BoxX) : Value := .slice x.A x.n x.c
theorem Bs.apart {W W' : World} {B : Nat} {A : Option Addr} {bs : List UInt8} {row : Option Nat} (h : Bs W B A bs) (hg : W.grownBy W' row) (hB : B ≤ W.heap.size) (hne : ∀ b o s, A = some ⟨b, o, s⟩ → row ≠ some b) : Bs W' B A bs := by
  rcases h with h | ⟨b, of, rfl, hb, hc⟩
  · exact .inl h
  · exact .inr ⟨b, of, rfl, hb, fun j hj => (World.cell?_of_block (hg.block b (by omega) (fun e => hne b of none rfl e.symm))).trans (hc j hj)⟩
/-- append in a fenced walk, and where the row lies behind it. -/
theorem wpIn_app {F : Fence} {n : Nat} {P : Program} (w : World) {ops : Array Oper} {rest : List Oper} {o : Oper} {a : Act} {Q : Exit → Act → World → Prop} (hg : o.guard = none) (s x : Operand) (t : TypeId)
    (hop : o.op = .call { callee := .builtin .append, args := #[s, x], argTypes := #[t, t] })
    (base : Nat) (e : TypeId) {z : Value} {bytes : Nat} (E : Elem P t e z bytes) (v : Value) (xs : List Value) (hs : a.eval s = v) (hown : Own w base e v xs)
    (B : Nat) (A : Option Addr) (m c : Nat) (news : List Value) (hx : a.eval x = .slice A m c) (hm : news.length = m) (hr : Vs w B A news) (h1 : ∀ u ∈ news, u.oneCell' = true)
    (h63 : xs.length + m ≤ maxLen) (hbytes : (xs.length + m) * bytes ≤ 140737488355328) (hbase : base ≤ w.heap.size)
    (h : ∀ v' w', Own w' base e v' (xs ++ news) → w.grownBy w' v.ownBlock → (v'.ownBlock = v.ownBlock ∨ v'.ownBlock = some w.heap.size) → wpListIn F n P ops Q rest (a.put o.dst v') w') : wpListIn F n P ops Q (o :: rest) a w := by
  refine wpListIn_plain hg fun K hK => ?_
  obtain ⟨v', w', hrun, r1, r2, r3⟩ := run_app w base t o.type e E v xs hown B A m c news hm hr h1 h63 hbytes hbase
  unfold Oper.wpIn
  refine ⟨?_, ?_⟩
  · simp [Oper.about, hop, resolve, Target.leads, Sem.run_pure]
  · rw [Oper.semAt_plain F _ _ (by rw [hop]; intro c hc; cases hc)]
    simp [execOp, hop, resolve, invoke, builtin, hs, hx, hrun, Result.andThen]
    exact hK _ _ (h v' w' r1 r2 r3)
/-- What Valid has between two rounds. -/
def VaI (l : List UInt8) (w : World) (B4 B5 b0 q : Nat) (pre : List BoxX) (W : World) : Prop :=
  ∃ v, Bk W B4 32 [v] ∧ Own W b0 22 v (pre.map BoxX.v) ∧ Bk W B5 3 [.int .i64 (szs pre : Int)] ∧ Vl W W.heap.size (pre.map BoxX.v) (pre.map BoxX.bd) ∧ Below w.heap.size w W ∧ b0 ≤ W.heap.size ∧ (∀ x ∈ pre, x.er = 0) ∧
    (∀ k, v.ownBlock = some k → k < q) ∧ b0 ≤ q ∧ q ≤ W.heap.size ∧ ∀ x ∈ pre, ∀ b o s, x.A = some ⟨b, o, s⟩ → b < q ∧ (b < w.heap.size ∨ b0 ≤ b) ∧ v.ownBlock ≠ some b
/-- And when it has left. -/
def VaX (l : List UInt8) (w : World) (B4 B5 b0 : Nat) (c : Code) (pre : List BoxX) (W : World) : Prop :=
  c = .exit 0 ∧ ∃ p x q, pre = p ++ [x] ∧ x.er ≠ 0 ∧ VaI l w B4 B5 b0 q p W
theorem Bk.turn {W : World} {g l : Nat} {t : TypeId} {vs : List Value} {o o' : Obj} (h : Bk W g t vs) (hl : W.heap[l]? = some o) (ho : o.isCells = false) : Bk (W.putObj l o') g t vs := by
  refine (World.putObj_heap_other (fun e => ?_)).trans h
  subst e
  unfold Bk at h
  rw [h] at hl
  cases hl
  cases ho
theorem Bs.turn {W : World} {B l : Nat} {A : Option Addr} {bs : List UInt8} {o o' : Obj} (h : Bs W B A bs) (hl : W.heap[l]? = some o) (ho : o.isCells = false) : Bs (W.putObj l o') B A bs := by
  rcases h with h | ⟨b, of, rfl, hb, hc⟩
  · exact .inl h
  · exact .inr ⟨b, of, rfl, hb, fun j hj => cell_kept (hc j hj) (grownBy_putObj' W l o') (fun r e => by cases e; exact ⟨o, hl, ho⟩)⟩
theorem Vs.turn {W : World} {B l : Nat} {A : Option Addr} {xs : List Value} {o o' : Obj} (h : Vs W B A xs) (hl : W.heap[l]? = some o) (ho : o.isCells = false) : Vs (W.putObj l o') B A xs := by
  rcases h with h | ⟨b, of, rfl, hb, hc⟩
  · exact .inl h
  · exact .inr ⟨b, of, rfl, hb, fun j hj => cell_kept (hc j hj) (grownBy_putObj' W l o') (fun r e => by cases e; exact ⟨o, hl, ho⟩)⟩
theorem Vl.turn {W : World} {B l : Nat} {vs : List Value} {ls : List (List UInt8)} {o o' : Obj} (h : Vl W B vs ls) (hl : W.heap[l]? = some o) (ho : o.isCells = false) : Vl (W.putObj l o') B vs ls :=
  ⟨h.1, fun i v x h1 h2 => by
    obtain ⟨A, n, c, e, q1, q2, q3, q4⟩ := h.2 i v x h1 h2
    exact ⟨A, n, c, e, q1, q2, q3, q4.turn hl ho⟩⟩
theorem vaI_stays (l : List UInt8) (w : World) (B4 B5 b0 q B : Nat) (hB : w.heap.size ≤ B) : Stays B (VaI l w B4 B5 b0 q) where
  more := by
    rintro pre A C ⟨v, h1, h2, h3, h4, h5, h6, h7, h8, h9, h10, h11⟩ hb
    exact ⟨v, h1.below hb h1.lt, h2.below hb (Nat.le_refl _), h3.below hb h3.lt, (h4.below hb (Nat.le_refl _)).more hb.size, h5.trans (hb.mono h5.size), Nat.le_trans h6 hb.size, h7, h8, h9, Nat.le_trans h10 hb.size, h11⟩
  turn := by
    rintro pre A lp o o' ⟨v, h1, h2, h3, h4, h5, h6, h7, h8, h9, h10, h11⟩ hl ho hc
    refine ⟨v, h1.turn ho hc, ownsRow_putObj h2 _ ho hc, h3.turn ho hc, ?_, h5.grown (grownBy_putObj' A lp o') h5.size (fun k e => by cases e; omega), by simpa using h6, h7, h8, h9, by simpa using h10, h11⟩
    have := h4.turn (o' := o') ho hc
    simpa using this
theorem vaX_stays (l : List UInt8) (w : World) (B4 B5 b0 : Nat) (c : Code) (B : Nat) (hB : w.heap.size ≤ B) : Stays B (VaX l w B4 B5 b0 c) where
  more := by
    rintro pre A C ⟨h1, p, x, q, h2, h3, h4⟩ hb
    exact ⟨h1, p, x, q, h2, h3, (vaI_stays l w B4 B5 b0 q B hB).more p A C h4 hb⟩
  turn := by
    rintro pre A lp o o' ⟨h1, p, x, q, h2, h3, h4⟩ hl ho hc
    exact ⟨h1, p, x, q, h2, h3, (vaI_stays l w B4 B5 b0 q B hB).turn p A lp o o' h4 hl ho hc⟩
theorem boxG_stays (l : List UInt8) (n0 q : Nat) (pre : List BoxX) (x : BoxX) (B : Nat) : Stays B (fun (_ : Unit) W => BoxX.G l n0 q pre x W) where
  more := by
    rintro _ A C ⟨h1, h2, h3, h4, h5, h6⟩ hb
    exact ⟨h1, h2, h3, (h4.below hb (Nat.le_refl _)).more hb.size, h5, h6⟩
  turn := by
    rintro _ A lp o o' ⟨h1, h2, h3, h4, h5, h6⟩ hl ho hc
    refine ⟨h1, h2, h3, ?_, h5, h6⟩
    have := h4.turn (o' := o') ho hc
    simpa using this

set_option maxRecDepth 100000 in
set_option maxHeartbeats 6400000 in
theorem valid_law : BoxValidLaw := by
  intro A m c l w hm hmc hcm hbs hm6
  have HM := Lib.hid hm.out
  have hit := fun (W : World) (Bx : Nat) (hW : Below w.heap.size w W) (hB : Bk W Bx 22 [.slice A m c]) => boxes_told next_law A m c w.heap.size Bx l W hm hmc hcm hm6 (hbs.below hW (Nat.le_refl _)) hW.size hB
  have HIT := Lib.hid hit
  clear hit hbs hm
  refine (callsIn_wide (n := 4)).1 ?_
  refine callsIn_of_wp_marks Try.func14 rfl trivial ?_ rfl
  simp only [Try.ntmps14, List.size_toArray, List.length_cons, List.length_nil, Nat.reduceAdd, Nat.reduceSub, Array.replicate_succ, Array.replicate_zero, List.push_toArray, List.append_toArray, List.nil_append, List.cons_append]
  gi_wp2
  refine ⟨trivial, (callsIn_wide.2 (boxes_any A m c _)).mono ?_⟩
  rintro e w' ⟨rfl, rfl⟩
  gi_wp2
  obtain ⟨W0, hW0⟩ : ∃ W0, ((w.alloc (.cells #[.slice none 0 0] 32)).alloc (.cells #[.int .i64 0] 3)).alloc (.cells #[.slice A m c] 22) = W0 := ⟨_, rfl⟩
  have hs0 : W0.heap.size = w.heap.size + 3 := by rw [← hW0]; simp
  have hb0 : Below w.heap.size w W0 := by rw [← hW0]; exact (((Below.refl _ w).alloc (Nat.le_refl _) _).alloc (by simp) _).alloc (by simp; omega) _
  have hk4 : Bk W0 w.heap.size 32 [.slice none 0 0] := by rw [← hW0]; exact ((Bk.new w _ _).alloc _).alloc _
  have hk5 : Bk W0 (w.heap.size + 1) 3 [.int .i64 0] := by
    rw [← hW0]
    have h := Bk.new (w.alloc (.cells #[.slice none 0 0] 32)) #[.int .i64 0] 3
    rw [World.size_alloc] at h
    exact h.alloc _
  have hkx : Bk W0 (w.heap.size + 2) 22 [.slice A m c] := by
    rw [← hW0]
    have h := Bk.new ((w.alloc (.cells #[.slice none 0 0] 32)).alloc (.cells #[.int .i64 0] 3)) #[.slice A m c] 22
    rw [World.size_alloc, World.size_alloc] at h
    exact h
  rw [hW0]
  refine range_told (w0 := W0) (lb := #[.pointer (some ⟨w.heap.size + 2, 0, none⟩)]) (gf := 34) (encs := BoxX.encs) (G := BoxX.G l w.heap.size) (Kp := BoxX.K w.heap.size (w.heap.size + 2)) (S := BoxX.S) (Sp := BoxX.Sp l) rfl (by omega) rfl trivial (enters_of Try.func34 (by kernel_rfl) rfl) (HIT.out W0 _ hb0 hkx) (Below.refl _ _) (fun _ => rfl)
    (fun h k => ⟨h.1.trans k.1, k.2.trans h.2⟩) (fun W lp o o' hl hh hc => ⟨(Below.refl _ W).grown (grownBy_putObj' W lp o') (by have := (Array.getElem?_eq_some_iff.1 hh).1; omega) (fun k e => by cases e; omega), World.putObj_heap_other (by omega)⟩)
    (VaI l w w.heap.size (w.heap.size + 1) W0.heap.size) (VaX l w w.heap.size (w.heap.size + 1) W0.heap.size) (fun q => vaI_stays l w _ _ _ q _ (by omega)) (fun c => vaX_stays l w _ _ _ c _ (by omega)) (fun q q' pre W ⟨v, h1, h2, h3, h4, h5, h6, h7, h8, h9, h10, h11⟩ hq hq' => ⟨v, h1, h2, h3, h4, h5, h6, h7, fun k hk => Nat.lt_of_lt_of_le (h8 k hk) hq, Nat.le_trans h9 hq, hq', fun x hx b o s e => ⟨Nat.lt_of_lt_of_le (h11 x hx b o s e).1 hq, (h11 x hx b o s e).2⟩⟩) (fun q pre x => boxG_stays l _ q pre x _)
    ⟨_, hk4, Own.nil _ _ _, hk5, Vl.nil _ _, hb0, Nat.le_refl _, (fun x hx => by cases hx), (fun k hk => by cases hk), Nat.le_refl _, Nat.le_refl _, (fun x hx => by cases hx)⟩
    (fun x => { tmps := #[.slice A m c, undef, .slice none 0 0, .int .i64 0, .pointer (some ⟨w.heap.size, 0, none⟩), .pointer (some ⟨w.heap.size + 1, 0, none⟩), .slice x.A x.n x.c, .int .i64 x.er, .slice A m c, .func (.func 34) #[] #[.pointer (some ⟨w.heap.size + 2, 0, none⟩)], .slice x.A x.n x.c, .int .i64 x.er, undef, undef, undef, undef, undef, undef, undef, undef, undef, undef, undef, undef, undef], defers := [] }) ?assign ?body ?done ?stop
  case assign =>
    intro lp x W K hK
    gi_wp2
    exact hK
  case body =>
    rintro lp q pre x W hlp - - hI hG0
    by_cases h0 : x.er = 0
    · obtain ⟨v, h1, h2, h3, h4, h5, h6, h7, h8, h9, h10, h11⟩ := hI
      obtain ⟨g1, g2, g3, g4, g5, g7⟩ := hG0
      obtain ⟨xA, xn, xc, xb, xe⟩ := x
      simp only at g1 g2 g3 g4 g5 g7 h0
      subst h0
      obtain ⟨gs, gp, gm⟩ := g5 rfl
      have hml := HM.out
      have hg1 := g1.out
      have hle := szs_le pre
      have HSN := szs_snoc pre ⟨xA, xn, xc, xb, 0⟩
      simp only at HSN
      obtain ⟨s, hs⟩ : ∃ s, szs pre = s := ⟨_, rfl⟩
      obtain ⟨z, hz⟩ : ∃ z, xb.length + 6 = z := ⟨_, rfl⟩
      obtain ⟨t, ht⟩ : ∃ t, s + z = t := ⟨_, rfl⟩
      rw [hs, hz, ht] at HSN
      rw [hs] at h3
      have hsum : IntKind.i64.wrap ((s : Int) + (z : Int)) = (t : Int) := by rw [IntKind.wrap_i64]; omega
      have HSZ : Hid (sizeX (xn : Int) = (z : Int)) := by show _ = _; unfold sizeX; rw [if_pos (by omega)]; omega
      have HSN := Lib.hid HSN
      have c4 : W.cell? ⟨w.heap.size, 0, none⟩ = some v := h1.cellAt 0 (show 0 < 1 by decide)
      have hpl : (pre.map BoxX.v).length = pre.length := List.length_map ..
      have b1 : (pre.map BoxX.v).length + 1 ≤ maxLen := by rw [hpl]; unfold maxLen; omega
      have b2 : ((pre.map BoxX.v).length + 1) * 24 ≤ 140737488355328 := by rw [hpl]; omega
      obtain ⟨Wa, hWa⟩ : ∃ Wa, W.alloc (.cells #[.slice xA xn xc] 22) = Wa := ⟨_, rfl⟩
      have hba : Below W.heap.size W Wa := by rw [← hWa]; exact (Below.refl _ W).alloc (Nat.le_refl _) _
      have hsa : Wa.heap.size = W.heap.size + 1 := by rw [← hWa]; simp
      have hnew : Vs Wa Wa.heap.size (some ⟨W.heap.size, 0, none⟩) [.slice xA xn xc] := by
        rw [hsa, ← hWa]
        exact Vs.new W #[.slice xA xn xc] 22 (0, 0) _ rfl
      have hown := h2.below hba (Nat.le_refl _)
      have hbase : W0.heap.size ≤ Wa.heap.size := by omega
      have hlt := h2.lt
      have H1 := Lib.hid h1
      have H3 := Lib.hid h3
      have H4 := Lib.hid h4
      have H5 := Lib.hid h5
      have H7 := Lib.hid h7
      have H11 := Lib.hid h11
      have HG := Lib.hid (And.intro g1 (And.intro g2 (And.intro g3 g4)))
      have HG7 := Lib.hid g7
      have HGP := Lib.hid gp
      clear h1 h3 h4 h5 h7 h11 g1 g2 g3 g4 g5 g7 gs gp gm hpl hle hs hz ht hg1 hml
      gi_wp2_with (gi_at_builtin; refine wpIn_app Wa rfl (.tmp 14) (.tmp 16) 32 rfl W0.heap.size 22 lE v (pre.map BoxX.v) rfl hown Wa.heap.size _ 1 1 [.slice xA xn xc] rfl rfl hnew (by simp [Value.oneCell']) b1 b2 hbase ?_; intro v' w1 hown' hgrow hv'; obtain ⟨A2, c2, rfl, -⟩ := Own.form hown'; have hO := Lib.hid hown'; have hG := Lib.hid hgrow; have hV := Lib.hid hv'; have e4 : Bk w1 w.heap.size 32 [v] := Bk.grown (H1.out.below hba H1.out.lt) hgrow (fun e => (by have := (hlt _ e.symm).1; omega)); have e5 : Bk w1 (w.heap.size + 1) 3 [.int .i64 (s : Int)] := Bk.grown (H3.out.below hba H3.out.lt) hgrow (fun e => (by have := (hlt _ e.symm).1; omega)); have c4' := Bk.cellAt e4 0 (show 0 < 1 by decide); have z4 := Bk.frozen e4 0; obtain ⟨nn, hnn⟩ : ∃ nn, (pre.map BoxX.v ++ [Value.slice xA xn xc]).length = nn := ⟨_, rfl⟩; rw [hnn] at hO hV ⊢; obtain ⟨w2, hw2⟩ : ∃ w2, w1.setCell ⟨w.heap.size, 0, none⟩ (.slice A2 nn c2) = w2 := ⟨_, rfl⟩; have f5 : Bk w2 (w.heap.size + 1) 3 [.int .i64 (s : Int)] := (hw2 ▸ Bk.far e5 (p := ⟨w.heap.size, 0, none⟩) (by simp) _); have f4 : Bk w2 w.heap.size 32 [.slice A2 nn c2] := (hw2 ▸ Bk.set_ e4 0 _); have c5' := Bk.cellAt f5 0 (show 0 < 1 by decide); have z5 := Bk.frozen f5 0; have F4 := Lib.hid f4; have F5 := Lib.hid f5; clear hown' hgrow hv' e4 e5 f4 f5)
      have hF : ∀ b o s, xA = some ⟨b, o, s⟩ → b < W.heap.size ∧ (b < w.heap.size ∨ w.heap.size + 3 ≤ b) ∧ v.ownBlock ≠ some b := by
        intro b o s e
        obtain ⟨b', o', e', hb', -⟩ := HG.out.2.2.2.at_ HGP.out
        rw [e'] at e
        cases e
        refine ⟨hb', ?_, fun e => ?_⟩
        · rcases HG7.out _ _ _ e' with h | h <;> omega
        · have q1 := (hlt _ e).1
          have q2 := h8 _ e
          rcases HG7.out _ _ _ e' with h | h <;> omega
      have hP : ∀ x ∈ pre, ∀ b o s, x.A = some ⟨b, o, s⟩ → b < W.heap.size ∧ (b < w.heap.size ∨ w.heap.size + 3 ≤ b) ∧ v.ownBlock ≠ some b := fun x hx b o s e => by
        obtain ⟨q1, q2, q3⟩ := H11.out x hx b o s e
        exact ⟨by omega, by omega, q3⟩
      obtain ⟨w3, hw3⟩ : ∃ w3, w2.setCell ⟨w.heap.size + 1, 0, none⟩ (.int .i64 (t : Int)) = w3 := ⟨_, rfl⟩
      have HFIN : Hid (KeepsOthers W w3 ∧ BoxX.K w.heap.size (w.heap.size + 2) W w3 ∧ VaI l w w.heap.size (w.heap.size + 1) W0.heap.size w3.heap.size (pre ++ [⟨xA, xn, xc, xb, 0⟩]) w3) := by
        have hwz : w.heap.size ≤ W.heap.size := H5.out.size
        have k12 : w1.grownBy w2 (some w.heap.size) := by rw [← hw2]; exact grown_set _ _ _ _
        have k23 : w2.grownBy w3 (some (w.heap.size + 1)) := by rw [← hw3]; exact grown_set _ _ _ _
        have s12 : w2.heap.size = w1.heap.size := by rw [← hw2]; simp [World.setCell]
        have s23 : w3.heap.size = w2.heap.size := by rw [← hw3]; simp [World.setCell]
        have s01 := hG.out.size
        have keep : ∀ A bs, Bs W W.heap.size A bs → (∀ b o s, A = some ⟨b, o, s⟩ → b < W.heap.size ∧ (b < w.heap.size ∨ w.heap.size + 3 ≤ b) ∧ v.ownBlock ≠ some b) → Bs w3 w3.heap.size A bs := fun A bs h hne => by
          have r1 := h.below hba (Nat.le_refl _)
          have r2 := r1.apart hG.out (by omega) fun b o s e => (hne b o s e).2.2
          have r3 := r2.apart k12 (by omega) fun b o s e he => by cases he; have := (hne _ o s e).2.1; omega
          have r4 := r3.apart k23 (by omega) fun b o s e he => by cases he; have := (hne _ o s e).2.1; omega
          exact r4.more (by omega)
        have hwn : ∀ k, (Value.slice A2 nn c2).ownBlock = some k → w.heap.size + 3 ≤ k ∧ k < w1.heap.size := fun k hk => by
          have := hO.out.lt k hk
          omega
        have hnb : ∀ b, b < W.heap.size → v.ownBlock ≠ some b → (Value.slice A2 nn c2).ownBlock ≠ some b := fun b h1 h2 e => by
          rcases hV.out with h | h
          · exact h2 (h.symm.trans e)
          · rw [e] at h
            have := Option.some.inj h
            omega
        have f3o : Own w3 (w.heap.size + 3) 22 (.slice A2 nn c2) (pre.map BoxX.v ++ [.slice xA xn xc]) := by
          rw [← hs0]
          refine (hO.out.kept k12 ?_).kept k23 ?_
          · cases hk : (Value.slice A2 nn c2).ownBlock with
            | none => exact .inl rfl
            | some k => exact .inr fun e => by cases e; have := hwn _ hk; omega
          · cases hk : (Value.slice A2 nn c2).ownBlock with
            | none => exact .inl rfl
            | some k => exact .inr fun e => by cases e; have := hwn _ hk; omega
        refine ⟨?_, ⟨?_, ?_⟩, .slice A2 nn c2, ?_, ?_, ?_, ?_, ?_, ?_, ?_, ?_, ?_, Nat.le_refl _, ?_⟩
        · rw [← hw3, ← hw2]
          refine (((hWa ▸ KeepsOthers.alloc W _ : KeepsOthers W Wa).trans (KeepsOthers.of_grownBy hG.out ?_)).trans (KeepsOthers.setCell _ _ _)).trans (KeepsOthers.setCell _ _ _)
          intro j o hj ho
          rcases hown.2 with ⟨rfl, _⟩ | ⟨gg, cap, cur, rfl, _, hgg, _⟩
          · cases hj
          · cases hj
            rw [hgg] at ho
            cases ho
            rfl
        · exact (((hba.mono hwz).grown hG.out (by omega) fun k hk => by have := (hlt k hk).1; omega).grown k12 (by omega) fun k hk => by cases hk; exact Nat.le_refl _).grown k23 (by omega) fun k hk => by cases hk; omega
        · exact (k23.block _ (by omega) (by simp)).trans ((k12.block _ (by omega) (by simp)).trans ((hG.out.block _ (by omega) (fun e => by have := (hlt _ e.symm).1; omega)).trans (hba.block _ (by omega))))
        · rw [← hw3]; exact F4.out.far (by simp) _
        · rw [List.map_append, hs0]; exact f3o
        · rw [HSN.out, ← hw3]; exact F5.out.set_ 0 _
        · rw [List.map_append, List.map_append]
          refine Vl.snoc ⟨H4.out.1, fun i v' l' e1 e2 => ?_⟩ ⟨xA, xn, xc, rfl, HG.out.1, HG.out.2.1, HG.out.2.2.1, keep _ _ HG.out.2.2.2 hF⟩
          obtain ⟨A', n', c', e3, r1, r2, r3, r4⟩ := H4.out.2 i v' l' e1 e2
          rw [List.getElem?_map] at e1
          obtain ⟨x', hx', e1⟩ := Option.map_eq_some_iff.1 e1
          have hxm := List.mem_of_getElem? hx'
          rw [e3] at e1
          have e4 : x'.A = A' := by cases x'; simp [BoxX.v] at e1; exact e1.1
          exact ⟨A', n', c', e3, r1, r2, r3, keep _ _ r4 fun b o s e => hP x' hxm b o s (e4.trans e)⟩
        · exact ((((H5.out.trans (hba.mono hwz)).grown hG.out (by omega) fun k hk => by have := (hlt k hk).1; omega).grown k12 (by omega) fun k hk => by cases hk; exact Nat.le_refl _).grown k23 (by omega) fun k hk => by cases hk; omega)
        · omega
        · intro x hx
          rcases List.mem_append.1 hx with h | h
          · exact H7.out x h
          · have hxe : x = ⟨xA, xn, xc, xb, 0⟩ := by simpa using h
            subst hxe
            rfl
        · intro k hk
          have := hwn k hk
          omega
        · omega
        · intro x hx b o s e
          rcases List.mem_append.1 hx with h | h
          · obtain ⟨r1, r2, r3⟩ := hP x h b o s e
            exact ⟨by omega, by omega, hnb b r1 r3⟩
          · have hxe : x = ⟨xA, xn, xc, xb, 0⟩ := by simpa using h
            subst hxe
            obtain ⟨r1, r2, r3⟩ := hF b o s e
            exact ⟨by omega, by omega, hnb b r1 r3⟩
      have HFD : Hid (KeepsOthers W w3.drew ∧ BoxX.K w.heap.size (w.heap.size + 2) W w3.drew ∧ VaI l w w.heap.size (w.heap.size + 1) W0.heap.size w3.drew.heap.size (pre ++ [⟨xA, xn, xc, xb, 0⟩]) w3.drew) := by
        obtain ⟨r1, r2, v', r3, r4, r5, r6, r7, r8⟩ := HFIN.out
        exact ⟨r1.trans (KeepsOthers.drew _), ⟨below_drewN r2.1 1, r2.2⟩, v', r3, r4.drewN 1, r5, r6, below_drewN r7 1, r8⟩
      subst hw3
      clear HFIN hF hP hO hG hV hlt hown hnew hba hsa hWa
      have hd : 1 ≤ 4 - 1 - 1 := by decide
      have hmx : Try.prog.follows .mixedOrders = true := by kernel_rfl
      gi_region_with_o (first
        | (refine ⟨trivial, ?_⟩; gi_at_call 9; refine (CallsIn.inRound lp (callsIn_wide.2 (bxsize_any _ _))).mono ?_; rintro e w' ⟨rfl, rfl⟩; rw [HSZ.out])
        | (gi_at_call 9; refine (CallsIn.inRound lp (callsIn_wide.2 (bxsize_any _ _))).mono ?_; rintro e w' ⟨rfl, rfl⟩; rw [HSZ.out]))
      all_goals gi_wp2
      all_goals exact HFD.out
    · have hX : Hid (VaX l w w.heap.size (w.heap.size + 1) W0.heap.size (.exit 0) (pre ++ [x]) W) := ⟨rfl, pre, x, q, rfl, h0, hI⟩
      obtain ⟨xA, xn, xc, xb, xe⟩ := x
      have g0 : (xe != 0) = true := by simpa using h0
      clear hI hG0 h0
      gi_wp2
      exact ⟨KeepsOthers.refl _, hX.out⟩
  case done =>
    rintro xs q W ⟨p, x, rfl, hx⟩ ⟨v, h1, h2, h3, h4, h5, h6, h7, h8⟩ hK
    exact absurd (h7 x (by simp)) hx
  case stop =>
    rintro c pre W ⟨p', x', rfl, hval⟩ ⟨rfl, p, x, q, he, hx, v, h1, h2, h3, h4, h5, h6, h7, h8, h9, h10, h11⟩ hK
    obtain ⟨rfl, rfl⟩ : p' = p ∧ x' = x := by simpa using he
    have hv := hval hx
    have c4 : W.cell? ⟨w.heap.size, 0, none⟩ = some v := h1.cellAt 0 (show 0 < 1 by decide)
    have c5 : W.cell? ⟨w.heap.size + 1, 0, none⟩ = some (.int .i64 (szs p' : Int)) := h3.cellAt 0 (show 0 < 1 by decide)
    have hfin : Hid (∀ n, ValidA l w (.returned (.tuple #[v, .int .i64 (szs p' : Int)])) ((W.drewN n).putObj W0.heap.size (.deferred none))) := fun n => by
      obtain ⟨A2, c2, rfl, r1, r2, r3⟩ := h2.form
      have hKn : (W.drewN n).heap[W0.heap.size]? = some (.deferred (some [])) := hK
      have hb : Below w.heap.size w ((W.drewN n).putObj W0.heap.size (.deferred none)) := (below_drewN h5 n).grown (grownBy_putObj' _ _ _) h5.size fun k hk => by cases hk; omega
      have hv3 : Vs (W.drewN n) W.heap.size A2 (p'.map BoxX.v) := r3
      have hl4 : Vl (W.drewN n) W.heap.size (p'.map BoxX.v) (p'.map BoxX.bd) := h4
      refine ⟨A2, _, c2, by rw [hv], Lib.hid ?_, r1, r2, ⟨p'.map BoxX.v, ?_, ?_⟩, hb⟩
      · rw [hv, List.length_map, List.length_map]
      · rw [World.putObj_size]
        exact Vs.turn (W := W.drewN n) hv3 hKn rfl
      · rw [World.putObj_size, hv]
        exact hl4.turn hKn rfl
    obtain ⟨z, hz⟩ : ∃ z, szs p' = z := ⟨_, rfl⟩
    rw [hz] at c5 hfin
    clear hz h1 h2 h3 h4 h5 h7 h8 h11 hval hv he
    gi_wp2
    gi_region
    all_goals
      gi_wp2
      refine ⟨by simp, .inl ⟨_, _, rfl, run_takeDeferred hK, ?_⟩⟩
      refine ⟨_, results_tmp2 (fn := Try.f14) rfl _ _ _, ?_⟩
      exact hfin.out 1
end Go.Proofs.Ytoielghmgjdknaa
