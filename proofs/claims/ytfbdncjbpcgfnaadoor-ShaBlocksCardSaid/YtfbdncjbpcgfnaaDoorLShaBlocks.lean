import Derived.Test.YtfbdncjbpcgfnaaDoorAwake03
import Derived.Test.YtfbdncjbpcgfnaaDoorSha8
import Derived.Test.YtfbdncjbpcgfnaaDoorArrEq
import Derived.Test.YtfbdncjbpcgfnaaDoorArr
import Derived.Deep.RegionHeld3
namespace Go.Proofs.YtfbdncjbpcgfnaaDoor
open Go.RowKit
set_option linter.unusedVariables false

theorem guard8 : Tryd.prog.eqGuardType Tryd.prog.depth 30 = false := by kernel_rfl
theorem u8size : (Tryd.prog.info? 5).map (·.size) = some 1 := by kernel_rfl
theorem eql_st (s : List Nat) (hs : s.length = 8) (W : World) : (binOp .eql 30 (sv8 s) (sv8 s)).run Tryd.prog W = .ok (.bool true) W := by
  have h := run_eql_arrI (P := Tryd.prog) W Tryd.underlying30 Tryd.underlying29 (by kernel_rfl) (s.map fun x : Nat => (x : Int)) (s.map fun x : Nat => (x : Int)) (by simpa using hs) (by simpa using hs)
  have e : ((s.map fun x : Nat => (x : Int)).map (Value.int .u32)) = s.map uv := by rw [List.map_map]; rfl
  rw [e] at h
  unfold sv8
  rw [h]
  congr 2
  simp
theorem block_lit (a0 b0 c0 d0 e0 f0 g0 h0 : Nat) (b : List UInt8) (w : World) (hs : St [a0, b0, c0, d0, e0, f0, g0, h0]) (hb : b.length = 64) (hK : Kons w) :
    Calls Tryd.prog 11 #[.agg #[.int .u32 (a0 : Int), .int .u32 (b0 : Int), .int .u32 (c0 : Int), .int .u32 (d0 : Int), .int .u32 (e0 : Int), .int .u32 (f0 : Int), .int .u32 (g0 : Int), .int .u32 (h0 : Int)], .agg (b.map bv).toArray] w (RetA (sv8 (blockN [a0, b0, c0, d0, e0, f0, g0, h0] b)) w) := block_any [a0, b0, c0, d0, e0, f0, g0, h0] b w hs hb hK
theorem rblock_lit (a0 b0 c0 d0 e0 f0 g0 h0 : Nat) (A : Option Addr) (c : Nat) (b : List UInt8) (w : World) (hs : St [a0, b0, c0, d0, e0, f0, g0, h0]) (hb : b.length = 64) (hL : Bs w w.heap.size A b) :
    Calls Tryd.prog 12 #[.agg #[.int .u32 (a0 : Int), .int .u32 (b0 : Int), .int .u32 (c0 : Int), .int .u32 (d0 : Int), .int .u32 (e0 : Int), .int .u32 (f0 : Int), .int .u32 (g0 : Int), .int .u32 (h0 : Int)], .slice A 64 c] w (RetA (sv8 (blockN [a0, b0, c0, d0, e0, f0, g0, h0] b)) w) := rblock_any [a0, b0, c0, d0, e0, f0, g0, h0] A c b w hs hb hL

set_option maxHeartbeats 1600000 in
theorem shaBlocks_go (s : List Nat) (b : List UInt8) (w : World) (hs : St s) (hb : b.length = 64) (hK : Kons w) :
    Calls Tryd.prog 4 #[sv8 s, .agg (b.map bv).toArray] w fun e w' => e = .returned (.bool true) ∧ Below w.heap.size w w' := by
  obtain ⟨a0, b0, c0, d0, e0, f0, g0, h0, rfl, -⟩ := hs.form
  show Calls Tryd.prog 4 #[.agg #[.int .u32 (a0 : Int), .int .u32 (b0 : Int), .int .u32 (c0 : Int), .int .u32 (d0 : Int), .int .u32 (e0 : Int), .int .u32 (f0 : Int), .int .u32 (g0 : Int), .int .u32 (h0 : Int)], .agg (b.map bv).toArray] w _
  have h1 := eql_st (blockN [a0, b0, c0, d0, e0, f0, g0, h0] b) (hs.block b).1
  have h2 := eql_st iv st_iv.1
  have hB1 := Lib.hid hb
  have hu := Tryd.underlying31
  have hi64 : (Tryd.prog.info? 31).map (·.size) = some (b.map bv).length := by rw [List.length_map, hb]; exact by64.size
  have hg30 := guard8
  have HK1 : Hid (∀ V : World, Kons V → Calls Tryd.prog 11 #[.agg #[.int .u32 (a0 : Int), .int .u32 (b0 : Int), .int .u32 (c0 : Int), .int .u32 (d0 : Int), .int .u32 (e0 : Int), .int .u32 (f0 : Int), .int .u32 (g0 : Int), .int .u32 (h0 : Int)], .agg (b.map bv).toArray] V (RetA (sv8 (blockN [a0, b0, c0, d0, e0, f0, g0, h0] b)) V)) := Lib.hid (fun V hV => block_lit a0 b0 c0 d0 e0 f0 g0 h0 b V hs hb hV)
  have HK2 : Hid (∀ (V : World) (A : Option Addr) (c : Nat), Bs V V.heap.size A b → Calls Tryd.prog 12 #[.agg #[.int .u32 (a0 : Int), .int .u32 (b0 : Int), .int .u32 (c0 : Int), .int .u32 (d0 : Int), .int .u32 (e0 : Int), .int .u32 (f0 : Int), .int .u32 (g0 : Int), .int .u32 (h0 : Int)], .slice A 64 c] V (RetA (sv8 (blockN [a0, b0, c0, d0, e0, f0, g0, h0] b)) V)) := Lib.hid (fun V A c hV => rblock_lit a0 b0 c0 d0 e0 f0 g0 h0 A c b V hs hb hV)
  have HK3 : Hid (∀ V : World, Calls Tryd.prog 13 #[] V (RetA (sv8 iv) V)) := Lib.hid start_any
  have HK4 : Hid (∀ V : World, Calls Tryd.prog 14 #[] V (RetA (sv8 iv) V)) := Lib.hid rstart_any
  unfold sv8 at h1 h2 HK1 HK2 HK3 HK4
  obtain ⟨X, hX⟩ : ∃ X, ((blockN [a0, b0, c0, d0, e0, f0, g0, h0] b).map uv).toArray = X := ⟨_, rfl⟩
  obtain ⟨I, hI⟩ : ∃ I, (iv.map uv).toArray = I := ⟨_, rfl⟩
  rw [hX] at h1 HK1 HK2
  rw [hI] at h2 HK3 HK4
  clear hX hI
  clear hb
  go_enter Tryd.func4, Tryd.ntmps4
  go_wp2_with fail
  obtain ⟨W, hW⟩ : ∃ W, W = (w.alloc (.cells #[.int .u32 (a0 : Int), .int .u32 (b0 : Int), .int .u32 (c0 : Int), .int .u32 (d0 : Int), .int .u32 (e0 : Int), .int .u32 (f0 : Int), .int .u32 (g0 : Int), .int .u32 (h0 : Int)] 30)).alloc (.cells (b.map bv).toArray 31) := ⟨_, rfl⟩
  have hS : Bk W w.heap.size 30 ([a0, b0, c0, d0, e0, f0, g0, h0].map uv) := by rw [hW]; exact (Bk.new' _ _ _ _ _ rfl rfl).alloc _
  have hM : Bk W (w.heap.size + 1) 31 (b.map bv) := by rw [hW]; exact Bk.new' _ _ _ _ _ (by simp) rfl
  have hbW : Below w.heap.size w W := by rw [hW]; exact ((Below.refl _ _).alloc (Nat.le_refl _) _).alloc (by simp) _
  rw [← hW]
  clear hW
  have k0 : ∀ V : World, Below W.heap.size W V → V.cell? ⟨w.heap.size, 0, none⟩ = some (.int .u32 (a0 : Int)) := fun V hV => (hS.below hV hS.lt).cell 0
  have k1 : ∀ V : World, Below W.heap.size W V → V.cell? ⟨w.heap.size, 1, none⟩ = some (.int .u32 (b0 : Int)) := fun V hV => (hS.below hV hS.lt).cell 1
  have k2 : ∀ V : World, Below W.heap.size W V → V.cell? ⟨w.heap.size, 2, none⟩ = some (.int .u32 (c0 : Int)) := fun V hV => (hS.below hV hS.lt).cell 2
  have k3 : ∀ V : World, Below W.heap.size W V → V.cell? ⟨w.heap.size, 3, none⟩ = some (.int .u32 (d0 : Int)) := fun V hV => (hS.below hV hS.lt).cell 3
  have k4 : ∀ V : World, Below W.heap.size W V → V.cell? ⟨w.heap.size, 4, none⟩ = some (.int .u32 (e0 : Int)) := fun V hV => (hS.below hV hS.lt).cell 4
  have k5 : ∀ V : World, Below W.heap.size W V → V.cell? ⟨w.heap.size, 5, none⟩ = some (.int .u32 (f0 : Int)) := fun V hV => (hS.below hV hS.lt).cell 5
  have k6 : ∀ V : World, Below W.heap.size W V → V.cell? ⟨w.heap.size, 6, none⟩ = some (.int .u32 (g0 : Int)) := fun V hV => (hS.below hV hS.lt).cell 6
  have k7 : ∀ V : World, Below W.heap.size W V → V.cell? ⟨w.heap.size, 7, none⟩ = some (.int .u32 (h0 : Int)) := fun V hV => (hS.below hV hS.lt).cell 7
  have hrng : ∀ V : World, Below W.heap.size W V → V.rangeAt (w.heap.size + 1) 0 (b.map bv) := fun V hV j v hv => by
    rw [Nat.zero_add, (hM.below hV hM.lt).cell, hv]
  have hbs : Bs W W.heap.size (some ⟨w.heap.size + 1, 0, none⟩) b := by
    have := hM.part 0 64
    rwa [List.drop_zero, List.take_of_length_le (by rw [List.length_map, hB1.out]; omega)] at this
  have hsl := slice_arr_all (P := Tryd.prog) Tryd.underlying31 u8size ⟨w.heap.size + 1, 0, none⟩
  have hKW := hK.below hbW
  clear hS hM
  go_region_held3 (fun V => V.rangeAt (w.heap.size + 1) 0 (b.map bv) ∧ Below W.heap.size W V) (first | exact ⟨hrng _ (by assumption), by assumption⟩ | exact ⟨hrng _ (below_drewN (Below.refl _ _) 1), below_drewN (Below.refl _ _) 1⟩) (first
    | (go_at_call 11; (with_reducible refine (HK1.out _ ?_).mono ?_); exact hKW.below (below_drewN (Below.refl _ _) 1); rintro e w1 ⟨rfl, hb1⟩; have hb1 : Below W.heap.size W w1 := (below_drewN (Below.refl _ _) 1).trans hb1)
    | (go_at_call 12; (with_reducible refine (HK2.out _ _ _ ?_).mono ?_); exact (hbs.below hb1 (Nat.le_refl _)).more hb1.size; rintro e w2 ⟨rfl, hb2⟩; have hb2 : Below W.heap.size W w2 := hb1.trans (hb2.mono hb1.size))
    | (go_at_call 13; (with_reducible refine (HK3.out _).mono ?_); rintro e w3 ⟨rfl, hb3⟩; have hb3 : Below W.heap.size W w3 := hb2.trans (hb3.mono hb2.size))
    | (go_at_call 14; (with_reducible refine (HK4.out _).mono ?_); rintro e w4 ⟨rfl, hb4⟩; have hb4 : Below W.heap.size W w4 := hb3.trans (hb4.mono hb3.size))
    | (go_at_call 7; (with_reducible refine (awake03_any _ ?_).mono ?_); exact hKW.below hb4; rintro e w5 ⟨rfl, hb5⟩; have hb5 : Below W.heap.size W w5 := hb4.trans (hb5.mono hb4.size)))
  go_wp2_with fail
  go_ret
  exact ⟨rfl, hbW.trans (hb5.mono hbW.size)⟩
end Go.Proofs.YtfbdncjbpcgfnaaDoor
