/-
  Package taximeterref09: Size, Cut.
-/
import Derived.Test.YtjdjidlopmanbaaRef9b
import Derived.Test.YtjdjidlopmanbaaRef01
import Derived.Deep.RegionHeld3
namespace Go.Proofs.Ytjdjidlopmanbaa
open Go.RowKit
set_option linter.unusedVariables false

theorem sizeF_take_le (l : List Fil) (i : Nat) : sizeF ((l.take i).map Fil.pf) ≤ sizeF (l.map Fil.pf) := by
  conv => rhs; rw [← List.take_append_drop i l]
  rw [List.map_append]
  unfold sizeF
  rw [List.map_append, List.sum_append]
  omega
set_option maxHeartbeats 1600000 in
theorem rsize_any {w : World} {Q : Nat → Prop} {a : Option Addr} {c : Nat} {l : List Fil} (h : IsFiles w Q a l) (hc : l.length ≤ c) (hm : c ≤ maxLen) (hz : sizeF (l.map Fil.pf) ≤ 1099511627776) :
    Calls Try.prog 33 #[.slice a l.length c] w fun e w' => e = .returned (.int .i64 (sizeF (l.map Fil.pf) : Int)) ∧ w = w' := by
  have HH := Lib.hid h.2
  have HFL := Lib.hid h.1
  have HZ := Lib.hid hz
  unfold maxLen at hm
  obtain ⟨len, hl⟩ : ∃ len, l.length = len := ⟨_, rfl⟩
  rw [hl] at hc ⊢
  have HL := Lib.hid hl
  clear h hl hz
  go_enter Try.func33, Try.ntmps33
  go_wp2_with fail
  go_loopw [3, 4] (fun s v wr => ∃ i : Nat, v = .int .i64 (i : Int) ∧ i ≤ len ∧ wr = w ∧ ∃ S : Nat, s = .int .i64 (S : Int) ∧ Hid (sizeF ((l.take i).map Fil.pf) = S)) (fun _ v _ => len - (intOf v).toNat)
  case atStart => exact ⟨0, rfl, Nat.zero_le _, rfl, 0, rfl, Lib.hid rfl⟩
  case round =>
    obtain ⟨i, rfl, hil, rfl, S, rfl, HS⟩ := hrel
    by_cases hlt : i < len
    · have hll : i < l.length := by rw [HL.out]; exact hlt
      obtain ⟨b, o, rfl, hb, _, hcell⟩ : ∃ b o, a = some ⟨b, o, none⟩ ∧ b < wr.heap.size ∧ Q b ∧ ∀ (i : Nat) (h : i < l.length) (j : Nat) v, l[i].cells[j]? = some v → wr.cell? ⟨b, o + (i * 3 + j), none⟩ = some v := by
        rcases HH.out with h | h
        · rw [h] at hll; simp at hll
        · exact h
      obtain ⟨g, hg⟩ : ∃ g, l[i] = g := ⟨_, rfl⟩
      have c1 : wr.cell? ⟨b, o + i * 3 + 1, none⟩ = some (.slice g.A g.n g.c) := by rw [← hg, Nat.add_assoc]; exact hcell i hll 1 _ rfl
      have b1 : (i : Int) < (len : Int) := by omega
      have hw : IntKind.i64.wrap ((i : Int) + 1) = ((i + 1 : Nat) : Int) := by rw [IntKind.wrap_i64]; omega
      have hgl := (HFL.out g (by rw [← hg]; exact List.getElem_mem hll)).len
      have hst : sizeF ((l.take (i + 1)).map Fil.pf) = sizeF ((l.take i).map Fil.pf) + g.n := by
        rw [List.take_succ_eq_append_getElem hll, hg, List.map_append, ← hgl]
        unfold sizeF
        simp
        rfl
      have hle := sizeF_take_le l (i + 1)
      have hz := HZ.out
      have hs := HS.out
      obtain ⟨S2, hS2⟩ : ∃ S2, sizeF ((l.take (i + 1)).map Fil.pf) = S2 := ⟨_, rfl⟩
      have hw2 : IntKind.i64.wrap ((S : Int) + (g.n : Int)) = (S2 : Int) := by rw [IntKind.wrap_i64]; omega
      have HS2 := Lib.hid hS2
      clear hcell hll HH hg hgl hst hle hz hs hS2
      go_wp2_with fail
      go_roundw
      case rel => exact ⟨i + 1, by go_num, by omega, (by first | rfl | trivial), S2, rfl, HS2⟩
      case measure => simp [intOf]; omega
    · obtain rfl : i = len := by omega
      have b1 : ¬ i < i := Nat.lt_irrefl i
      have HF : Hid (l.take i = l) := by show _ = _; rw [← HL.out, List.take_length]
      rw [HF.out] at HS
      clear HH
      go_wp2_with fail
      go_ret
      exact ⟨by rw [HS.out]; rfl, rfl⟩

/-- append of structs onto a row of the call's own, as a step of a region that draws its order. -/
theorem step_appR {P : Program} (w : World) {ops : Array Oper} {o : Oper} {a : Act} {K : Act → World → Prop} {Q : Exit → Act → World → Prop} {E0 : Prop} (hgd : o.guard = none) (s x : Operand) (t : TypeId)
    (ho : o.op = .call { callee := .builtin .append, args := #[s, x], argTypes := #[t, t] })
    (base : Nat) (e : TypeId) {i : TypeInfo} {z : Value} {size bytes : Nat} (ht : P.underlying t = some (.slice e)) (hi : P.info? e = some i) (hz : i.zero = some z) (hsize : i.size = size) (hby : i.bytes = bytes) (hzs : z.cells.size = size) (hsz : 0 < size)
    (v : Value) (n : Nat) (xs : List Value) (hs : a.eval s = v) (hown : w.ownsRow base e size v n xs)
    (ad : Addr) (m c : Nat) (news : List Value) (hx : a.eval x = .slice (some ad) m c) (hl : news.length = m * size) (hnews : ∀ j u, news[j]? = some u → w.cell? (ad.add j) = some u) (h1 : ∀ u ∈ news, u.oneCell' = true)
    (h63 : n + m ≤ maxLen) (hbytes : (n + m) * bytes ≤ 140737488355328) (hbase : base ≤ w.heap.size)
    (h : ∀ v' w', w'.ownsRow base e size v' (n + m) (xs ++ news) → w.grownBy w' v.ownBlock → (v'.ownBlock = v.ownBlock ∨ v'.ownBlock = some w.heap.size) → K (a.put o.dst v') w') :
    if Region.wanted o (yielded ops a.tmps) = true then Oper.wp P o a w K Q else E0 := by
  rw [if_pos (by simp [Region.wanted, hgd])]
  obtain ⟨v', w', hrun, h2, h3, _, h4⟩ := run_append_own_at (P := P) w base t o.type e i z size bytes ht hi hz hsize hby hzs hsz v n xs hown ad m c news hl hnews h1 h63 hbytes hbase
  unfold Oper.wp execOp
  simp only [ho, resolve, invoke, builtin, Sem.run_bind, Sem.run_pure, Result.andThen_ok, List.map_toArray, List.map_cons, List.map_nil, hs, hx, hrun]
  exact h v' w' h2 h3 h4
theorem gofR {a w : World} (hb : Below a.heap.size a w) (row : Option Nat) : a.grownBy w row := ⟨hb.os, hb.tape, hb.output, hb.size, fun k hk _ => hb.block k hk⟩
theorem grownR {a b c : World} {row : Option Nat} (h : a.grownBy b row) (k : b.grownBy c row) : a.grownBy c row :=
  ⟨k.os.trans h.os, k.tape.trans h.tape, k.output.trans h.output, Nat.le_trans h.size k.size, fun i hi hne => (k.block i (Nat.lt_of_lt_of_le hi h.size) hne).trans (h.block i hi hne)⟩
/-- A file that is cut. -/
def cutR (keep : Int) (f : Fil) : Fil := ⟨f.name, f.A, cutN keep f.pf, f.c, f.data.take (cutN keep f.pf), cutN keep f.pf⟩
theorem cutR_pf (keep : Int) (l : List Fil) : (l.map (cutR keep)).map Fil.pf = (l.map Fil.pf).map (cutF keep) := by
  rw [List.map_map, List.map_map]
  rfl
theorem FilOk.cut {w : World} {Q : Nat → Prop} {f : Fil} (h : FilOk w Q f) (keep : Int) (hs : f.sure ≤ f.n) : FilOk w Q (cutR keep f) := by
  have hle : cutN keep f.pf ≤ f.n := by rw [← h.len]; exact cutN_le keep (show f.sure ≤ f.data.length by rw [h.len]; exact hs)
  refine ⟨?_, Nat.le_trans hle h.cap, h.max, ?_⟩
  · show (f.data.take (cutN keep f.pf)).length = _
    rw [List.length_take, h.len]
    exact Nat.min_eq_left hle
  · rcases h.data with hd | ⟨b, o, e, hlt, hq, hc⟩
    · exact .inl (by show f.data.take _ = []; rw [hd]; simp)
    · refine .inr ⟨b, o, e, hlt, hq, fun j hj => ?_⟩
      have hj' : j < (f.data.map bv).length := by
        have : ((cutR keep f).data.map bv).length ≤ (f.data.map bv).length := by
          show ((f.data.take _).map bv).length ≤ _
          simp
          omega
        omega
      rw [hc j hj']
      show some (f.data.map bv)[j] = some ((f.data.take (cutN keep f.pf)).map bv)[j]
      simp

set_option maxHeartbeats 6400000 in
theorem cut_any {w : World} {Q : Nat → Prop} {a : Option Addr} {c : Nat} {l : List Fil} (h : IsFiles w Q a l) (hQ : ∀ b, w.heap.size ≤ b → Q b) (hc : l.length ≤ c) (hm : c ≤ maxLen) (hlen : l.length ≤ 65536) (hsure : ∀ f ∈ l, f.sure ≤ f.n) (keep : Int) (hk : (Lit.int .i64 keep).wf = true) :
    Calls Try.prog 22 #[.slice a l.length c, .int .i64 keep] w fun e w' => ∃ v, e = .returned v ∧ FSl w' Q v (l.map (cutR keep)) ∧ Below w.heap.size w w' := by
  have HH := Lib.hid h.2
  have HFL := Lib.hid h.1
  have HS := Lib.hid hsure
  have HQ := Lib.hid hQ
  have hk2 := Go.bounds_i64 hk
  obtain ⟨len, hl⟩ : ∃ len, l.length = len := ⟨_, rfl⟩
  rw [hl] at hc hlen ⊢
  have HL := Lib.hid hl
  obtain ⟨zi, hzi, hzz, hzs, hzb⟩ := zfileR_info
  clear h hl hsure hQ hk
  go_enter Try.func22, Try.ntmps22
  go_wp2_with fail
  go_loopw [5, 6, 7, 8] (fun lv v _ _ wr => ∃ i : Nat, v = .int .i64 (i : Int) ∧ i ≤ len ∧ Hid (FilesQ w wr Q lv ((l.take i).map (cutR keep)))) (fun _ v _ _ _ => len - (intOf v).toNat)
  case atStart => exact ⟨0, rfl, Nat.zero_le _, FilesQ.start w Q⟩
  case round =>
    obtain ⟨i, rfl, hil, HI⟩ := hrel
    by_cases hlt : i < len
    · have hll : i < l.length := by rw [HL.out]; exact hlt
      obtain ⟨b, o, rfl, hb, _, hcell⟩ : ∃ b o, a = some ⟨b, o, none⟩ ∧ b < w.heap.size ∧ Q b ∧ ∀ (i : Nat) (h : i < l.length) (j : Nat) v, l[i].cells[j]? = some v → w.cell? ⟨b, o + (i * 3 + j), none⟩ = some v := by
        rcases HH.out with h | h
        · rw [h] at hll; simp at hll
        · exact h
      obtain ⟨g, hg⟩ : ∃ g, l[i] = g := ⟨_, rfl⟩
      have hgm : g ∈ l := by rw [← hg]; exact List.getElem_mem hll
      have hbo : ∀ k, u5.ownBlock = some k → w.heap.size ≤ k ∧ k < wr.heap.size := HI.out.row.lt
      have hbne : (some b : Option Nat) ≠ u5.ownBlock := fun e => by
        have := (hbo b e.symm).1
        omega
      have hbs : w.heap.size ≤ wr.heap.size := HI.out.below.size
      have hgr : ∀ V : World, wr.grownBy V u5.ownBlock → ∀ q, V.cell? ⟨b, q, none⟩ = w.cell? ⟨b, q, none⟩ := fun V hV q =>
        (World.cell?_of_block (hV.block b (by omega) hbne)).trans (HI.out.below.cell hb)
      have k0 : ∀ V : World, wr.grownBy V u5.ownBlock → V.cell? ⟨b, o + i * 3, none⟩ = some (.string g.name) := fun V hV => by rw [hgr V hV, ← hg]; exact hcell i hll 0 _ rfl
      have k1 : ∀ V : World, wr.grownBy V u5.ownBlock → V.cell? ⟨b, o + i * 3 + 1, none⟩ = some (.slice g.A g.n g.c) := fun V hV => by rw [hgr V hV, ← hg, Nat.add_assoc]; exact hcell i hll 1 _ rfl
      have c1 : wr.cell? ⟨b, o + i * 3 + 1, none⟩ = some (.slice g.A g.n g.c) := k1 wr (World.grownBy.refl wr _)
      have c2 : wr.cell? ⟨b, o + i * 3 + 2, none⟩ = some (.int .i64 (g.sure : Int)) := by rw [hgr wr (World.grownBy.refl wr _), ← hg, Nat.add_assoc]; exact hcell i hll 2 _ rfl
      have hfo := HFL.out g hgm
      have hsn := HS.out g hgm
      have hgc := hfo.cap
      have hgm2 := hfo.max
      have hgm3 : g.c ≤ 9223372036854775807 := hgm2
      have b1 : (i : Int) < (len : Int) := by omega
      have hw : IntKind.i64.wrap ((i : Int) + 1) = ((i + 1 : Nat) : Int) := by rw [IntKind.wrap_i64]; omega
      have HFO := Lib.hid hfo
      have htk : (l.take (i + 1)).map (cutR keep) = (l.take i).map (cutR keep) ++ [cutR keep g] := by rw [List.take_succ_eq_append_getElem hll, hg, List.map_append]; rfl
      have HTK := Lib.hid htk
      have hlw : ((l.take i).map (cutR keep)).length = i := by simp; omega
      have HLW := Lib.hid hlw
      obtain ⟨out, hout⟩ : ∃ out, (l.take i).map (cutR keep) = out := ⟨_, rfl⟩
      rw [hout] at HI HTK HLW
      have hcut : cutN keep g.pf = g.sure + min keep.toNat (g.n - g.sure) := by
        have : g.pf.data.length = g.n := hfo.len
        show g.sure + min keep.toNat (g.pf.data.length - g.sure) = _
        rw [this]
      have HCUT := Lib.hid hcut
      clear hcell hll HH hg hgm hfo hgm2 htk hlw hout hcut hbo hgr
      go_wp2_with fail
      go_loopw [7, 8] (fun nv kv w2 => ∃ k q : Nat, kv = .int .i64 (k : Int) ∧ nv = .int .i64 (q : Int) ∧ Hid (g.sure + k = q ∧ (k : Int) ≤ max keep 0 ∧ q ≤ g.n) ∧ w2 = wr) (fun nv _ _ => g.n - (intOf nv).toNat)
      case atStart => exact ⟨0, g.sure, rfl, rfl, ⟨by omega, by omega, hsn⟩, rfl⟩
      case round =>
        obtain ⟨k, q, rfl, rfl, HK, rfl⟩ := hrel
        obtain ⟨hk1, hk3, hk4⟩ := HK.out
        by_cases hA : (k : Int) < keep ∧ q < g.n
        · obtain ⟨hA1, hA2⟩ := hA
          have hwq : IntKind.i64.wrap ((q : Int) + 1) = ((q + 1 : Nat) : Int) := by rw [IntKind.wrap_i64]; omega
          have hwk : IntKind.i64.wrap ((k : Int) + 1) = ((k + 1 : Nat) : Int) := by rw [IntKind.wrap_i64]; omega
          have hd1 : decide ((k : Int) < keep) = true := decide_eq_true hA1
          have HK2 : Hid (g.sure + (k + 1) = q + 1 ∧ ((k + 1 : Nat) : Int) ≤ max keep 0 ∧ q + 1 ≤ g.n) := ⟨by omega, by omega, by omega⟩
          clear hk1 hk3 hk4 HK
          go_wp2_with fail
          go_roundw
          case rel => exact ⟨k + 1, q + 1, by go_num, by go_num, HK2, by first | rfl | trivial⟩
          case measure => simp [intOf]; omega
        · have hcq : cutN keep g.pf = q := by
            rw [HCUT.out]
            by_cases h9 : (k : Int) < keep
            · have : ¬ q < g.n := fun h8 => hA ⟨h9, h8⟩
              omega
            · omega
          have hF : cutR keep g = ⟨g.name, g.A, q, g.c, g.data.take q, q⟩ := by unfold cutR; rw [hcq]
          have HCR : Hid (FilOk w Q ⟨g.name, g.A, q, g.c, g.data.take q, q⟩) := by
            show FilOk _ _ _
            rw [← hF]
            exact HFO.out.cut keep hsn
          have HTK2 : Hid (List.map (cutR keep) (List.take (i + 1) l) = out ++ [⟨g.name, g.A, q, g.c, g.data.take q, q⟩]) := by show _ = _; rw [HTK.out, hF]
          have hsl := fun W => slice_to u8E W g.A g.n g.c q (by omega)
          have hrow := HI.out.row.alloc (.cells #[.string g.name, .slice g.A q g.c, .int .i64 (q : Int)] 50)
          have hrowd : ∀ V : World, V.heap = wr.heap → (V.alloc (.cells #[.string g.name, .slice g.A q g.c, .int .i64 (q : Int)] 50)).ownsRow w.heap.size 50 3 u5 out.length (out.flatMap Fil.cells) := fun V hV => by
            have h7 : V.ownsRow w.heap.size 50 3 u5 out.length (out.flatMap Fil.cells) := by
              have h6 := HI.out.row
              unfold World.ownsRow at h6 ⊢
              rw [hV]
              exact h6
            exact h7.alloc _
          have h63 : out.length + 1 ≤ maxLen := by rw [HLW.out]; unfold maxLen; omega
          have hbytes : (out.length + 1) * 48 ≤ 140737488355328 := by rw [HLW.out]; omega
          have hone : ∀ u ∈ ([.string g.name, .slice g.A q g.c, .int .i64 (q : Int)] : List Value), u.oneCell' = true := fun u hu => by
            simp only [List.mem_cons, List.not_mem_nil, or_false] at hu
            rcases hu with rfl | rfl | rfl <;> rfl
          have hsz : w.heap.size ≤ wr.heap.size + 1 := by omega
          have hE : (decide ((k : Int) < keep) = false ∨ decide ((k : Int) < keep) = true ∧ ¬ q < g.n) := by
            by_cases h9 : (k : Int) < keep
            · exact .inr ⟨decide_eq_true h9, fun h8 => hA ⟨h9, h8⟩⟩
            · exact .inl (decide_eq_false h9)
          clear hk1 hk3 hk4 HK hA hcq hF c2 hsn hrow
          rcases hE with hE | ⟨hE, hE2⟩
          all_goals
            go_wp2_with fail
            go_region_held3 (fun V => wr.grownBy V u5.ownBlock) (first | assumption | exact gofR (below_drewN (Below.refl _ _) 1) _ | exact gofR (Below.refl _ _) _ | exact gofR ((below_drewN (Below.refl _ _) 1).alloc (Nat.le_refl _) _) _) (first
              | ((refine step_appR _ (by rfl) (.tmp 37) (.tmp 52) _ (by rfl) w.heap.size 50 Try.underlying28 hzi hzz hzs hzb (by rfl) (by decide) u5 out.length (out.flatMap Fil.cells) (by rfl) (by exact hrowd wr.drew rfl) ⟨wr.heap.size, 0, none⟩ 1 _ ([.string g.name, .slice g.A q g.c, .int .i64 (q : Int)] : List Value) (by rfl) (by rfl) (by exact cells_newR wr.drew [.string g.name, .slice g.A q g.c, .int .i64 (q : Int)] _) hone h63 hbytes (by simpa using hsz) ?_); intro v7 w7 hR7 hG7 hv7; have hS7 : wr.grownBy w7 u5.ownBlock := grownR (gofR ((below_drewN (Below.refl _ _) 1).alloc (Nat.le_refl _) _) _) hG7))
            have HP := Lib.hid (HI.out.push ⟨g.name, g.A, q, g.c, g.data.take q, q⟩ (W6 := wr.drew.alloc (.cells #[.string g.name, .slice g.A q g.c, .int .i64 (q : Int)] 50)) ((HI.out.elder HCR.out).keepR (fun b hb _ => Below.heap_alloc wr.drew _ b hb) (by simp) (fun _ _ hq => hq)) ((below_drewN (Below.refl _ wr) 1).alloc (Nat.le_refl _) _) hR7 hG7 hv7)
            clear hR7 hG7 hv7 hrowd hone hS7 k0 k1
            try go_wp2_with fail
            go_roundw
            case rel => exact ⟨i + 1, by go_num, by omega, by show FilesQ _ _ _ _ _; rw [HTK2.out]; exact HP.out⟩
            case measure => simp [intOf]; omega
    · obtain rfl : i = len := by omega
      have b1 : ¬ i < i := Nat.lt_irrefl i
      have HF : Hid (l.take i = l) := by show _ = _; rw [← HL.out, List.take_length]
      rw [HF.out] at HI
      clear HH
      go_wp2_with fail
      go_ret
      exact ⟨_, rfl, HI.out.done HQ.out, HI.out.below⟩
end Go.Proofs.Ytjdjidlopmanbaa
