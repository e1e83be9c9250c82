/-
  Package taximeterlaw09: awake, over whatever disk.
-/
import Derived.Test.YtillnfjedjahnaaLDiskKeeps
import Derived.Test.YtillnfjedjahnaaName3
import Derived.Lib.SlBytesConst
namespace Go.Proofs.Ytillnfjedjahnaa
open Go.RowKit
set_option linter.unusedVariables false

def aw0 : DSt := newS 9
def aw1 : DSt := (callS (appendS [97] [120, 121, 122]) aw0).1
def aw2 : DSt := (callS (syncS [97]) aw1).1
def aw3 : DSt := (callS (appendS [97] [117, 118]) aw2).1
def aw4 : DSt := crashS 1 aw3
theorem aw_files : aw4.files = [⟨[97], [120, 121, 122, 117], 4⟩] := by kernel_rfl
theorem aw_down : aw4.down = true := by kernel_rfl
theorem aw_z0 : sizeF aw0.files + 3 ≤ 1099511627776 := by decide +kernel
theorem aw_z2 : sizeF aw2.files + 2 ≤ 1099511627776 := by decide +kernel

theorem map_one {l : List Fil} {p : PF} (h : l.map Fil.pf = [p]) : ∃ f, l = [f] ∧ f.pf = p := by
  match l, h with
  | [f], h => exact ⟨f, rfl, by simpa using h⟩
theorem eff_floor {w w1 w2 : World} {O O' : Nat → Prop} (h : Below w.heap.size w w1 ∧ ∀ b, O b → w.heap.size ≤ b) (he : Eff O O' w1 w2) : Below w.heap.size w w2 ∧ ∀ b, O' b → w.heap.size ≤ b :=
  ⟨h.1.trans (he.below h.1.size h.2), he.floor h.1.size h.2⟩
theorem alloc_floor {w w1 : World} {O : Nat → Prop} (h : Below w.heap.size w w1 ∧ ∀ b, O b → w.heap.size ≤ b) (o : Obj) : Below w.heap.size w (w1.alloc o) ∧ ∀ b, O b → w.heap.size ≤ b :=
  ⟨h.1.alloc h.1.size o, h.2⟩

set_option maxHeartbeats 1600000 in
theorem awake09_over {IsD : World → (Nat → Prop) → Nat → DSt → Prop} (D : DiskLaws IsD) : Awake9 := by
  intro w
  have hcv := fun W => Lib.run_convert_bytes_const W 29 5 #[.int .u8 120, .int .u8 121, .int .u8 122] 3 3 Try.underlying29 Try.underlying5
  have hcv2 := fun W => Lib.run_convert_bytes_const W 29 5 #[.int .u8 117, .int .u8 118] 2 2 Try.underlying29 Try.underlying5
  have HN := Lib.hid (D.new w 9 (by decide))
  have HD := Lib.hid D
  clear D
  go_enter Try.func6, Try.ntmps6
  go_wp2_with fail
  refine HN.out.mono ?_
  rintro e w1 ⟨d, O, rfl, hD, hE⟩
  have HI : Hid (IsD w1 O d aw0) := hD
  have HB1 : Hid (Below w.heap.size w w1 ∧ ∀ b, O b → w.heap.size ≤ b) := ⟨hE.below (Nat.le_refl _) (fun b h => h.elim), fun b h => by
    rcases hE.new b h with h' | h'
    · exact h'.elim
    · exact h'⟩
  clear hD hE
  go_wp2_with fail
  refine (HD.out.append ⟨#[97]⟩ _ 3 3 [120, 121, 122] (HD.out.alloc HI.out _) (by decide) rfl (by decide) (by unfold maxLen; decide) (by simpa using Bs.new w1 #[.int .u8 120, .int .u8 121, .int .u8 122] 5 (3, 4) [120, 121, 122] rfl) aw_z0).mono ?_
  rintro e w2 ⟨O2, rfl, hD2, hE2⟩
  have HI2 : Hid (IsD w2 O2 d aw1) := hD2
  have HB2 := Lib.hid (eff_floor (alloc_floor HB1.out _) hE2)
  clear hD2 hE2
  go_wp2_with fail
  refine (HD.out.sync ⟨#[97]⟩ HI2.out (by decide)).mono ?_
  rintro e w3 ⟨O3, rfl, hD3, hE3⟩
  have HI3 : Hid (IsD w3 O3 d aw2) := hD3
  have HB3 := Lib.hid (eff_floor HB2.out hE3)
  clear hD3 hE3
  go_wp2_with fail
  refine (HD.out.append ⟨#[97]⟩ _ 2 2 [117, 118] (HD.out.alloc HI3.out _) (by decide) rfl (by decide) (by unfold maxLen; decide) (by simpa using Bs.new w3 #[.int .u8 117, .int .u8 118] 5 (2, 3) [117, 118] rfl) aw_z2).mono ?_
  rintro e w4 ⟨O4, rfl, hD4, hE4⟩
  have HI4 : Hid (IsD w4 O4 d aw3) := hD4
  have HB4 := Lib.hid (eff_floor (alloc_floor HB3.out _) hE4)
  clear hD4 hE4
  go_wp2_with fail
  refine (HD.out.crash 1 HI4.out (by decide)).mono ?_
  rintro e w5 ⟨O5, rfl, hD5, hE5⟩
  have HI5 : Hid (IsD w5 O5 d aw4) := hD5
  have HB5 := Lib.hid (eff_floor HB4.out hE5)
  clear hD5 hE5
  go_wp2_with fail
  refine (HD.out.files HI5.out).mono ?_
  rintro e w6 ⟨A, c, l, rfl, hF, hlc, hcm, hpf, hb6⟩
  rw [aw_files] at hpf
  obtain ⟨f, rfl, hf⟩ : ∃ f, l = [f] ∧ f.pf = ⟨[97], [120, 121, 122, 117], 4⟩ := map_one hpf
  obtain ⟨b, o, g, rfl, hbb, hgi, hgm, hgok, g0, g1, g2⟩ := hF.cell (i := 0) (Nat.zero_lt_one)
  obtain rfl : f = g := by simpa using hgi
  have hdata : f.data = [120, 121, 122, 117] := congrArg PF.data hf
  have hlen : f.data.length = f.n := hgok.len
  rw [hdata] at hlen
  have hbs := hgok.bs
  rw [hdata] at hbs
  obtain ⟨X, hX1, hX2⟩ := run_string w6 29 9 5 f.A f.n f.c [120, 121, 122, 117] _ Try.underlying29 Try.underlying5 Try.underlying9 hlen hbs
  have hXe : (X.toList == [120, 121, 122, 117]) = true := by
    rw [bl_toList, hX2]
    rfl
  have g1' : w6.cell? ⟨b, o + 1, none⟩ = some (.slice f.A f.n f.c) := by rw [← g1]
  have HI6 := Lib.hid (HD.out.eff HI5.out hb6)
  have HB6 : Hid (Below w.heap.size w w6) := HB5.out.1.trans (hb6.mono HB5.out.1.size)
  clear hF hpf hgi hgm hgok g0 g1 g2 hf hdata hbs hX2 hb6 hlen
  go_wp2_with fail
  refine (HD.out.down HI6.out).mono ?_
  rintro e w7 ⟨rfl, hb7⟩
  rw [aw_down]
  go_wp2_with fail
  go_ret
  exact ⟨rfl, HB6.out.trans (hb7.mono HB6.out.size)⟩
end Go.Proofs.Ytillnfjedjahnaa
