/-
  The walk of PriceRises.
-/
import Derived.Test.YtgefjlamlgmijaaDoorPrice2
import Derived.Test.YtgefjlamlgmijaaDoorArr
namespace Go.Proofs.YtgefjlamlgmijaaDoor
open Go.RowKit
set_option linter.unusedVariables false

theorem Dbj.alloc {w : World} (h : Dbj w) (o : Obj) : Dbj (w.alloc o) := fun i hi => by
  have hlt := World.block_lt_of_cell? w _ (h i hi)
  rw [World.cell?_alloc_lt w o _ hlt]
  exact h i hi

theorem Dbj.drewN {w : World} (h : Dbj w) (n : Nat) : Dbj (w.drewN n) := h
def fine : Nat := 1074
theorem fine_eq : (fine : Int) = 1074 := rfl
/-- A price, in parts of 2 to the power of -1074. -/
def worth (b : Nat) : Nat := if cls b = 5 then val (rung b) else 0
theorem scale_worth (n b : Nat) : scale (n * partsM b) (partsE b) = n * worth b / 2 ^ fine := by
  unfold partsM partsE worth
  by_cases h : cls b = 5
  · rw [if_pos h, if_pos h, if_pos h]
    unfold val odd
    generalize hp : pl (rung b) = p
    have hm := mg_lt (rung b)
    generalize mg (rung b) = m at *
    have hK := fine_eq
    generalize fine = K at *
    rcases Nat.eq_zero_or_pos m with rfl | h0
    · rw [Nat.zero_div, Nat.zero_mul, Nat.mul_zero, scale_zero, Nat.zero_div]
    · obtain ⟨_, _, h2, _⟩ := odd_spec h0 hm
      unfold odd at h2
      rw [scale_of K _ _ (by omega), show (-1074 + (p : Int) + (tz m : Int) + (K : Int)).toNat = tz m + p by omega, Nat.pow_add, ← Nat.mul_assoc, Nat.mul_assoc n, Nat.mul_comm (m / 2 ^ tz m), ← h2, Nat.mul_assoc]
  · rw [if_neg h, if_neg h, if_neg h, Nat.mul_zero, scale_zero, Nat.zero_div]
theorem due_none (b : Nat) : dueOf 0 b = 0 := by
  unfold dueOf
  split
  · rw [Nat.zero_mul, due_zero]
  · rfl
theorem err_cases (b : Nat) : errOf b = 0 ∨ errOf b = 13 := by
  unfold errOf
  split
  · exact .inl rfl
  · exact .inr rfl
theorem can_lt {b : Nat} (h : b < 18446744073709551616) : canN b < 18446744073709551616 := by
  unfold canN
  split
  · omega
  · split <;> omega
theorem worth_le {x y : Nat} (hx : x < 18446744073709551616) (hy : y < 18446744073709551616) (ix : errOf x = 0) (iy : errOf y = 0) (h : aheadB (canN y) (canN x) = false) : worth x ≤ worth y := by
  have ky : cls y = 3 ∨ cls y = 4 ∨ cls y = 5 := by
    unfold errOf partsI at iy
    by_cases k : cls y = 3 ∨ cls y = 4 ∨ cls y = 5
    · exact k
    · rw [decide_eq_false k] at iy; simp at iy
  have c0 : cls 0 = 4 := by decide
  by_cases k : cls x = 5
  · obtain ⟨x0, x1, x2⟩ := cls5 hx k
    have ex : canN x = x := by unfold canN; rw [if_neg (by omega), if_neg (by omega)]
    rw [ex] at h
    by_cases k2 : cls y = 5
    · obtain ⟨y0, y1, y2⟩ := cls5 hy k2
      have ey : canN y = y := by unfold canN; rw [if_neg (by omega), if_neg (by omega)]
      rw [ey] at h
      unfold aheadB at h
      rw [if_neg (by omega), if_neg (by omega), if_neg (by omega)] at h
      unfold worth
      rw [if_pos k, if_pos k2, x2, y2]
      exact val_le (by simpa using h)
    · exfalso
      have hc : cls (canN y) = 4 := by
        unfold canN
        rw [if_neg (by omega)]
        split
        · exact c0
        · omega
      unfold aheadB at h
      rw [if_neg (by omega), if_pos (by omega)] at h
      have : ¬ cls (canN y) < cls x := of_decide_eq_false h
      omega
  · unfold worth
    rw [if_neg k]
    omega
theorem rises_fact (lo hi x y : Nat) (h : lo ≤ hi) (hx : x < 18446744073709551616) (hy : y < 18446744073709551616) (ix : errOf x = 0) (iy : errOf y = 0) (hl : aheadB (canN y) (canN x) = false) : dueOf lo x ≤ dueOf hi y := by
  have hw := worth_le hx hy ix iy hl
  have jx : partsI x = true := by unfold errOf at ix; cases hI : partsI x <;> simp_all
  have jy : partsI y = true := by unfold errOf at iy; cases hI : partsI y <;> simp_all
  unfold dueOf
  rw [jx, jy, if_pos rfl, if_pos rfl]
  unfold dueN
  rw [scale_worth, scale_worth]
  have h1 : lo * worth x ≤ hi * worth y := Nat.mul_le_mul h hw
  have h2 : lo * worth x / 2 ^ fine ≤ hi * worth y / 2 ^ fine := Nat.div_le_div_right h1
  generalize lo * worth x / 2 ^ fine = X at *
  generalize hi * worth y / 2 ^ fine = Y at *
  omega

theorem rises_up (a b x y : Nat) (w : World) (hab : a < b) (hT : Dbj w) (ha : a < 18446744073709551616) (hb : b < 18446744073709551616) (hx : x < 18446744073709551616) (hy : y < 18446744073709551616) :
    Calls Tryd.prog 4 #[.int .u64 (a : Int), .int .u64 (b : Int), .agg #[.int .u64 (x : Int), .int .u64 (y : Int)]] w fun e w' => e = .returned (.bool true) ∧ Below w.heap.size w w' := by
  have hf := rises_fact a b x y (by omega) hx hy
  have hz := due_none x
  have hcx := can_lt hx
  have hcy := can_lt hy
  obtain ⟨dx, hdx⟩ : ∃ d, dueOf a x = d := ⟨_, rfl⟩
  obtain ⟨dy, hdy⟩ : ∃ d, dueOf b y = d := ⟨_, rfl⟩
  rw [hdx, hdy] at hf
  have HX := Lib.hid hdx
  have HY := Lib.hid hdy
  have HZ := Lib.hid hz
  have hex := err_cases x
  have hey := err_cases y
  obtain ⟨ex, hEX⟩ : ∃ e, errOf x = e := ⟨_, rfl⟩
  obtain ⟨ey, hEY⟩ : ∃ e, errOf y = e := ⟨_, rfl⟩
  rw [hEX] at hex hf
  rw [hEY] at hey hf
  have HEX := Lib.hid hEX
  have HEY := Lib.hid hEY
  clear hdx hdy hz hEX hEY
  go_enter Tryd.func4, Tryd.ntmps4
  go_wp2_with fail
  obtain ⟨W, hW⟩ : ∃ W, W = w.alloc (.cells #[.int .u64 (x : Int), .int .u64 (y : Int)] 32) := ⟨_, rfl⟩
  have c0 : W.cell? ⟨w.heap.size, 0, none⟩ = some (.int .u64 (x : Int)) := by rw [hW]; simp
  have c1 : W.cell? ⟨w.heap.size, 1, none⟩ = some (.int .u64 (y : Int)) := by rw [hW]; simp
  have hTW : Dbj W := by rw [hW]; exact hT.alloc _
  have hB : Below w.heap.size w W := by rw [hW]; exact (Below.refl _ _).alloc (Nat.le_refl _) _
  rw [← hW]
  clear hW hT
  refine (due_any a x W (by omega) hx hTW).mono ?_
  rintro e' w1 ⟨rfl, q, hq⟩
  rw [HX.out, HEX.out]
  replace c0 : w1.cell? ⟨w.heap.size, 0, none⟩ = some (.int .u64 (x : Int)) := by rw [hq]; exact c0
  replace c1 : w1.cell? ⟨w.heap.size, 1, none⟩ = some (.int .u64 (y : Int)) := by rw [hq]; exact c1
  replace hTW : Dbj w1 := by rw [hq]; exact hTW
  replace hB : Below w.heap.size w w1 := by rw [hq]; exact below_drewN hB q
  clear hq
  go_wp2_with fail
  refine (due_any b y w1 (by omega) hy hTW).mono ?_
  rintro e' w2 ⟨rfl, q, hq⟩
  rw [HY.out, HEY.out]
  replace c0 : w2.cell? ⟨w.heap.size, 0, none⟩ = some (.int .u64 (x : Int)) := by rw [hq]; exact c0
  replace c1 : w2.cell? ⟨w.heap.size, 1, none⟩ = some (.int .u64 (y : Int)) := by rw [hq]; exact c1
  replace hTW : Dbj w2 := by rw [hq]; exact hTW
  replace hB : Below w.heap.size w w2 := by rw [hq]; exact below_drewN hB q
  clear hq
  go_wp2_with fail
  refine (due_any 0 x w2 (by omega) hx hTW).mono ?_
  rintro e' w3 ⟨rfl, q, hq⟩
  rw [HZ.out, HEX.out]
  replace c0 : w3.cell? ⟨w.heap.size, 0, none⟩ = some (.int .u64 (x : Int)) := by rw [hq]; exact c0
  replace c1 : w3.cell? ⟨w.heap.size, 1, none⟩ = some (.int .u64 (y : Int)) := by rw [hq]; exact c1
  replace hTW : Dbj w3 := by rw [hq]; exact hTW
  replace hB : Below w.heap.size w w3 := by rw [hq]; exact below_drewN hB q
  clear hq
  rcases hex with rfl | rfl
  · rcases hey with rfl | rfl
    · obtain ⟨u, hu⟩ : ∃ u, canN x = u := ⟨_, rfl⟩
      obtain ⟨v, hv⟩ : ∃ v, canN y = v := ⟨_, rfl⟩
      rw [hu] at hf hcx
      rw [hv] at hf hcy
      have HU := Lib.hid (fun (W : World) => rcanon_any x W hx)
      have HV := Lib.hid (fun (W : World) => rcanon_any y W hy)
      rw [hu] at HU
      rw [hv] at HV
      clear hu hv
      cases hl : aheadB v u with
      | true =>
        have HL := Lib.hid (fun (W : World) => rless_any v u W hcy hcx)
        rw [hl] at HL
        clear hl hf
        go_wp2_with fail
        go_quiet ((first | (go_at_call 10; (first | (with_reducible exact qcall (HU.out _)) | (with_reducible exact qcall (HV.out _)))) | (go_at_call 11; with_reducible exact qcall (HL.out _))))
        go_wp2_with fail
        refine (awake06_any _ (hTW.drewN _)).mono ?_
        rintro e' w4 ⟨rfl, q, rfl⟩
        go_wp2_with fail
        go_ret
        exact ⟨rfl, below_drewN hB _⟩
      | false =>
        have HL := Lib.hid (fun (W : World) => rless_any v u W hcy hcx)
        rw [hl] at HL
        have hle : dx ≤ dy := hf rfl rfl hl
        clear hl hf
        go_wp2_with fail
        go_quiet ((first | (go_at_call 10; (first | (with_reducible exact qcall (HU.out _)) | (with_reducible exact qcall (HV.out _)))) | (go_at_call 11; with_reducible exact qcall (HL.out _))))
        go_wp2_with fail
        refine (awake06_any _ (hTW.drewN _)).mono ?_
        rintro e' w4 ⟨rfl, q, rfl⟩
        go_wp2_with fail
        go_ret
        exact ⟨rfl, below_drewN hB _⟩
    · clear hf
      go_wp2_with fail
      refine (awake06_any _ hTW).mono ?_
      rintro e' w4 ⟨rfl, q, rfl⟩
      go_wp2_with fail
      go_ret
      exact ⟨rfl, below_drewN hB q⟩
  · clear hf
    go_wp2_with fail
    refine (awake06_any _ hTW).mono ?_
    rintro e' w4 ⟨rfl, q, rfl⟩
    go_wp2_with fail
    go_ret
    exact ⟨rfl, below_drewN hB q⟩
theorem rises_down (a b x y : Nat) (w : World) (hab : b < a) (hT : Dbj w) (ha : a < 18446744073709551616) (hb : b < 18446744073709551616) (hx : x < 18446744073709551616) (hy : y < 18446744073709551616) :
    Calls Tryd.prog 4 #[.int .u64 (a : Int), .int .u64 (b : Int), .agg #[.int .u64 (x : Int), .int .u64 (y : Int)]] w fun e w' => e = .returned (.bool true) ∧ Below w.heap.size w w' := by
  have hf := rises_fact b a x y (by omega) hx hy
  have hz := due_none x
  have hcx := can_lt hx
  have hcy := can_lt hy
  obtain ⟨dx, hdx⟩ : ∃ d, dueOf b x = d := ⟨_, rfl⟩
  obtain ⟨dy, hdy⟩ : ∃ d, dueOf a y = d := ⟨_, rfl⟩
  rw [hdx, hdy] at hf
  have HX := Lib.hid hdx
  have HY := Lib.hid hdy
  have HZ := Lib.hid hz
  have hex := err_cases x
  have hey := err_cases y
  obtain ⟨ex, hEX⟩ : ∃ e, errOf x = e := ⟨_, rfl⟩
  obtain ⟨ey, hEY⟩ : ∃ e, errOf y = e := ⟨_, rfl⟩
  rw [hEX] at hex hf
  rw [hEY] at hey hf
  have HEX := Lib.hid hEX
  have HEY := Lib.hid hEY
  clear hdx hdy hz hEX hEY
  go_enter Tryd.func4, Tryd.ntmps4
  go_wp2_with fail
  obtain ⟨W, hW⟩ : ∃ W, W = w.alloc (.cells #[.int .u64 (x : Int), .int .u64 (y : Int)] 32) := ⟨_, rfl⟩
  have c0 : W.cell? ⟨w.heap.size, 0, none⟩ = some (.int .u64 (x : Int)) := by rw [hW]; simp
  have c1 : W.cell? ⟨w.heap.size, 1, none⟩ = some (.int .u64 (y : Int)) := by rw [hW]; simp
  have hTW : Dbj W := by rw [hW]; exact hT.alloc _
  have hB : Below w.heap.size w W := by rw [hW]; exact (Below.refl _ _).alloc (Nat.le_refl _) _
  rw [← hW]
  clear hW hT
  refine (due_any b x W (by omega) hx hTW).mono ?_
  rintro e' w1 ⟨rfl, q, hq⟩
  rw [HX.out, HEX.out]
  replace c0 : w1.cell? ⟨w.heap.size, 0, none⟩ = some (.int .u64 (x : Int)) := by rw [hq]; exact c0
  replace c1 : w1.cell? ⟨w.heap.size, 1, none⟩ = some (.int .u64 (y : Int)) := by rw [hq]; exact c1
  replace hTW : Dbj w1 := by rw [hq]; exact hTW
  replace hB : Below w.heap.size w w1 := by rw [hq]; exact below_drewN hB q
  clear hq
  go_wp2_with fail
  refine (due_any a y w1 (by omega) hy hTW).mono ?_
  rintro e' w2 ⟨rfl, q, hq⟩
  rw [HY.out, HEY.out]
  replace c0 : w2.cell? ⟨w.heap.size, 0, none⟩ = some (.int .u64 (x : Int)) := by rw [hq]; exact c0
  replace c1 : w2.cell? ⟨w.heap.size, 1, none⟩ = some (.int .u64 (y : Int)) := by rw [hq]; exact c1
  replace hTW : Dbj w2 := by rw [hq]; exact hTW
  replace hB : Below w.heap.size w w2 := by rw [hq]; exact below_drewN hB q
  clear hq
  go_wp2_with fail
  refine (due_any 0 x w2 (by omega) hx hTW).mono ?_
  rintro e' w3 ⟨rfl, q, hq⟩
  rw [HZ.out, HEX.out]
  replace c0 : w3.cell? ⟨w.heap.size, 0, none⟩ = some (.int .u64 (x : Int)) := by rw [hq]; exact c0
  replace c1 : w3.cell? ⟨w.heap.size, 1, none⟩ = some (.int .u64 (y : Int)) := by rw [hq]; exact c1
  replace hTW : Dbj w3 := by rw [hq]; exact hTW
  replace hB : Below w.heap.size w w3 := by rw [hq]; exact below_drewN hB q
  clear hq
  rcases hex with rfl | rfl
  · rcases hey with rfl | rfl
    · obtain ⟨u, hu⟩ : ∃ u, canN x = u := ⟨_, rfl⟩
      obtain ⟨v, hv⟩ : ∃ v, canN y = v := ⟨_, rfl⟩
      rw [hu] at hf hcx
      rw [hv] at hf hcy
      have HU := Lib.hid (fun (W : World) => rcanon_any x W hx)
      have HV := Lib.hid (fun (W : World) => rcanon_any y W hy)
      rw [hu] at HU
      rw [hv] at HV
      clear hu hv
      cases hl : aheadB v u with
      | true =>
        have HL := Lib.hid (fun (W : World) => rless_any v u W hcy hcx)
        rw [hl] at HL
        clear hl hf
        go_wp2_with fail
        go_quiet ((first | (go_at_call 10; (first | (with_reducible exact qcall (HU.out _)) | (with_reducible exact qcall (HV.out _)))) | (go_at_call 11; with_reducible exact qcall (HL.out _))))
        go_wp2_with fail
        refine (awake06_any _ (hTW.drewN _)).mono ?_
        rintro e' w4 ⟨rfl, q, rfl⟩
        go_wp2_with fail
        go_ret
        exact ⟨rfl, below_drewN hB _⟩
      | false =>
        have HL := Lib.hid (fun (W : World) => rless_any v u W hcy hcx)
        rw [hl] at HL
        have hle : dx ≤ dy := hf rfl rfl hl
        clear hl hf
        go_wp2_with fail
        go_quiet ((first | (go_at_call 10; (first | (with_reducible exact qcall (HU.out _)) | (with_reducible exact qcall (HV.out _)))) | (go_at_call 11; with_reducible exact qcall (HL.out _))))
        go_wp2_with fail
        refine (awake06_any _ (hTW.drewN _)).mono ?_
        rintro e' w4 ⟨rfl, q, rfl⟩
        go_wp2_with fail
        go_ret
        exact ⟨rfl, below_drewN hB _⟩
    · clear hf
      go_wp2_with fail
      refine (awake06_any _ hTW).mono ?_
      rintro e' w4 ⟨rfl, q, rfl⟩
      go_wp2_with fail
      go_ret
      exact ⟨rfl, below_drewN hB q⟩
  · clear hf
    go_wp2_with fail
    refine (awake06_any _ hTW).mono ?_
    rintro e' w4 ⟨rfl, q, rfl⟩
    go_wp2_with fail
    go_ret
    exact ⟨rfl, below_drewN hB q⟩
theorem rises_same (a x y : Nat) (w : World) (hT : Dbj w) (ha : a < 18446744073709551616) (hx : x < 18446744073709551616) (hy : y < 18446744073709551616) :
    Calls Tryd.prog 4 #[.int .u64 (a : Int), .int .u64 (a : Int), .agg #[.int .u64 (x : Int), .int .u64 (y : Int)]] w fun e w' => e = .returned (.bool true) ∧ Below w.heap.size w w' := by
  have hf := rises_fact a a x y (by omega) hx hy
  have hz := due_none x
  have hcx := can_lt hx
  have hcy := can_lt hy
  obtain ⟨dx, hdx⟩ : ∃ d, dueOf a x = d := ⟨_, rfl⟩
  obtain ⟨dy, hdy⟩ : ∃ d, dueOf a y = d := ⟨_, rfl⟩
  rw [hdx, hdy] at hf
  have HX := Lib.hid hdx
  have HY := Lib.hid hdy
  have HZ := Lib.hid hz
  have hex := err_cases x
  have hey := err_cases y
  obtain ⟨ex, hEX⟩ : ∃ e, errOf x = e := ⟨_, rfl⟩
  obtain ⟨ey, hEY⟩ : ∃ e, errOf y = e := ⟨_, rfl⟩
  rw [hEX] at hex hf
  rw [hEY] at hey hf
  have HEX := Lib.hid hEX
  have HEY := Lib.hid hEY
  clear hdx hdy hz hEX hEY
  go_enter Tryd.func4, Tryd.ntmps4
  go_wp2_with fail
  obtain ⟨W, hW⟩ : ∃ W, W = w.alloc (.cells #[.int .u64 (x : Int), .int .u64 (y : Int)] 32) := ⟨_, rfl⟩
  have c0 : W.cell? ⟨w.heap.size, 0, none⟩ = some (.int .u64 (x : Int)) := by rw [hW]; simp
  have c1 : W.cell? ⟨w.heap.size, 1, none⟩ = some (.int .u64 (y : Int)) := by rw [hW]; simp
  have hTW : Dbj W := by rw [hW]; exact hT.alloc _
  have hB : Below w.heap.size w W := by rw [hW]; exact (Below.refl _ _).alloc (Nat.le_refl _) _
  rw [← hW]
  clear hW hT
  refine (due_any a x W (by omega) hx hTW).mono ?_
  rintro e' w1 ⟨rfl, q, hq⟩
  rw [HX.out, HEX.out]
  replace c0 : w1.cell? ⟨w.heap.size, 0, none⟩ = some (.int .u64 (x : Int)) := by rw [hq]; exact c0
  replace c1 : w1.cell? ⟨w.heap.size, 1, none⟩ = some (.int .u64 (y : Int)) := by rw [hq]; exact c1
  replace hTW : Dbj w1 := by rw [hq]; exact hTW
  replace hB : Below w.heap.size w w1 := by rw [hq]; exact below_drewN hB q
  clear hq
  go_wp2_with fail
  refine (due_any a y w1 (by omega) hy hTW).mono ?_
  rintro e' w2 ⟨rfl, q, hq⟩
  rw [HY.out, HEY.out]
  replace c0 : w2.cell? ⟨w.heap.size, 0, none⟩ = some (.int .u64 (x : Int)) := by rw [hq]; exact c0
  replace c1 : w2.cell? ⟨w.heap.size, 1, none⟩ = some (.int .u64 (y : Int)) := by rw [hq]; exact c1
  replace hTW : Dbj w2 := by rw [hq]; exact hTW
  replace hB : Below w.heap.size w w2 := by rw [hq]; exact below_drewN hB q
  clear hq
  go_wp2_with fail
  refine (due_any 0 x w2 (by omega) hx hTW).mono ?_
  rintro e' w3 ⟨rfl, q, hq⟩
  rw [HZ.out, HEX.out]
  replace c0 : w3.cell? ⟨w.heap.size, 0, none⟩ = some (.int .u64 (x : Int)) := by rw [hq]; exact c0
  replace c1 : w3.cell? ⟨w.heap.size, 1, none⟩ = some (.int .u64 (y : Int)) := by rw [hq]; exact c1
  replace hTW : Dbj w3 := by rw [hq]; exact hTW
  replace hB : Below w.heap.size w w3 := by rw [hq]; exact below_drewN hB q
  clear hq
  rcases hex with rfl | rfl
  · rcases hey with rfl | rfl
    · obtain ⟨u, hu⟩ : ∃ u, canN x = u := ⟨_, rfl⟩
      obtain ⟨v, hv⟩ : ∃ v, canN y = v := ⟨_, rfl⟩
      rw [hu] at hf hcx
      rw [hv] at hf hcy
      have HU := Lib.hid (fun (W : World) => rcanon_any x W hx)
      have HV := Lib.hid (fun (W : World) => rcanon_any y W hy)
      rw [hu] at HU
      rw [hv] at HV
      clear hu hv
      cases hl : aheadB v u with
      | true =>
        have HL := Lib.hid (fun (W : World) => rless_any v u W hcy hcx)
        rw [hl] at HL
        clear hl hf
        go_wp2_with fail
        go_quiet ((first | (go_at_call 10; (first | (with_reducible exact qcall (HU.out _)) | (with_reducible exact qcall (HV.out _)))) | (go_at_call 11; with_reducible exact qcall (HL.out _))))
        go_wp2_with fail
        refine (awake06_any _ (hTW.drewN _)).mono ?_
        rintro e' w4 ⟨rfl, q, rfl⟩
        go_wp2_with fail
        go_ret
        exact ⟨rfl, below_drewN hB _⟩
      | false =>
        have HL := Lib.hid (fun (W : World) => rless_any v u W hcy hcx)
        rw [hl] at HL
        have hle : dx ≤ dy := hf rfl rfl hl
        clear hl hf
        go_wp2_with fail
        go_quiet ((first | (go_at_call 10; (first | (with_reducible exact qcall (HU.out _)) | (with_reducible exact qcall (HV.out _)))) | (go_at_call 11; with_reducible exact qcall (HL.out _))))
        go_wp2_with fail
        refine (awake06_any _ (hTW.drewN _)).mono ?_
        rintro e' w4 ⟨rfl, q, rfl⟩
        go_wp2_with fail
        go_ret
        exact ⟨rfl, below_drewN hB _⟩
    · clear hf
      go_wp2_with fail
      refine (awake06_any _ hTW).mono ?_
      rintro e' w4 ⟨rfl, q, rfl⟩
      go_wp2_with fail
      go_ret
      exact ⟨rfl, below_drewN hB q⟩
  · clear hf
    go_wp2_with fail
    refine (awake06_any _ hTW).mono ?_
    rintro e' w4 ⟨rfl, q, rfl⟩
    go_wp2_with fail
    go_ret
    exact ⟨rfl, below_drewN hB q⟩
theorem priceRises_go (a b x y : Nat) (w : World) (hT : Dbj w) (ha : a < 18446744073709551616) (hb : b < 18446744073709551616) (hx : x < 18446744073709551616) (hy : y < 18446744073709551616) :
    Calls Tryd.prog 4 #[.int .u64 (a : Int), .int .u64 (b : Int), .agg #[.int .u64 (x : Int), .int .u64 (y : Int)]] w fun e w' => e = .returned (.bool true) ∧ Below w.heap.size w w' := by
  rcases Nat.lt_trichotomy a b with h | rfl | h
  · exact rises_up a b x y w h hT ha hb hx hy
  · exact rises_same a x y w hT ha hx hy
  · exact rises_down a b x y w h hT ha hb hx hy
end Go.Proofs.YtgefjlamlgmijaaDoor
